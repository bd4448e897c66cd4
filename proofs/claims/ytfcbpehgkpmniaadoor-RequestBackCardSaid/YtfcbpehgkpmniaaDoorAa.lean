/- Blocks in memory; what has turned; rows of texts that are read from memory; rows that grow. -/
import Derived.Test.YtfcbpehgkpmniaaDoorProg
import Derived.Handy
import Derived.WalkLawsBesides
import Derived.WalkSpells
import Derived.Lib.Hide
import Derived.Laws.OwnMore
import Derived.Deep.Draws
import Derived.Outline
import Derived.BigQuiet
import Derived.Deep.QuietTactic
import Derived.IntWalk
import Derived.Maps.OwnSet
import Derived.Maps.RangeWalk
import Derived.ProofKit
import Derived.Maps.AppendAt
import Derived.Deep.AppendLies
import Derived.RegionTactic
import Derived.StillTailTactics
import Derived.OwnWalk
import Derived.Lib.SliceRun
import Derived.ArgAppend
import Derived.Laws.IdiomCopy
namespace Go.Proofs.YtfcbpehgkpmniaaDoor
open Go.RowKit Go.Maps Go.WideMaps

theorem ret_i {k : IntKind} {a b : Int} (h : a = b) : Ending.returned (.int k a) = .returned (.int k b) := by rw [h]
theorem ret_b {a b : Bool} (h : a = b) : Ending.returned (.bool a) = .returned (.bool b) := by rw [h]

/-- No error, or the error k. -/
def erI : Bool → Int → Int
  | true, _ => 0
  | false, k => k
/-- Every byte of a string is as asked. -/
def allB (p : Nat → Bool) (s : ByteArray) : Bool := s.data.toList.all fun c => p c.toNat
theorem allB_yes {p : Nat → Bool} {s : ByteArray} (h : ∀ (j : Nat) (hj : j < s.size), p s[j].toNat = true) : allB p s = true := by
  unfold allB
  rw [List.all_eq_true]
  intro c hc
  obtain ⟨j, hj, rfl⟩ := List.getElem_of_mem hc
  have hj' : j < s.size := by simpa using hj
  exact h j hj'
theorem allB_no {p : Nat → Bool} {s : ByteArray} (j : Nat) (hj : j < s.size) (h : p s[j].toNat = false) : allB p s = false := by
  unfold allB
  rw [List.all_eq_false]
  exact ⟨s[j], by simp [ByteArray.getElem_eq_getElem_data], by simp [h]⟩
/-- A block that is known whole. -/
def Blk (w : World) (g : Nat) (t : TypeId) (cs : Array Value) : Prop := w.heap[g]? = some (.cells cs t (0, 0))
section
variable {w w' : World} {g : Nat} {t : TypeId} {cs : Array Value}
theorem Blk.lt (h : Blk w g t cs) : g < w.heap.size := by
  rcases Nat.lt_or_ge g w.heap.size with hlt | hge
  · exact hlt
  · unfold Blk at h; rw [Array.getElem?_eq_none hge] at h; cases h
theorem Blk.cell (h : Blk w g t cs) (i : Nat) : w.cell? ⟨g, i, none⟩ = cs[i]? := cell_of_row w g i cs t (0, 0) h
theorem Blk.frozen (h : Blk w g t cs) (i : Nat) : w.frozen? ⟨g, i, none⟩ = false := by
  unfold Blk at h
  simp [World.frozen?, h]
theorem Blk.new (w : World) (t : TypeId) (cs : Array Value) : Blk (w.alloc (.cells cs t)) w.heap.size t cs := heap_alloc_new w _
theorem Blk.drew (h : Blk w g t cs) : Blk w.drew g t cs := h
theorem Blk.drewN (h : Blk w g t cs) (n : Nat) : Blk (w.drewN n) g t cs := h
theorem Blk.alloc (h : Blk w g t cs) (o : Obj) : Blk (w.alloc o) g t cs := (Below.heap_alloc w o g h.lt).trans h
theorem Blk.far (h : Blk w g t cs) {p : Addr} (hp : g ≠ p.block) (u : Value) : Blk (w.setCell p u) g t cs := (Below.heap_setCell w p u g hp).trans h
theorem Blk.below {B : Nat} (h : Blk w g t cs) (hb : Below B w w') (hg : g < B) : Blk w' g t cs := (hb.block g hg).trans h
theorem Blk.grown {row : Option Nat} (h : Blk w g t cs) (hb : w.grownBy w' row) (hg : some g ≠ row) : Blk w' g t cs := (hb.block g h.lt hg).trans h
end
theorem ntrans {w w1 w2 : World} (a : Below w.heap.size w w1) (b : Below w1.heap.size w1 w2) : Below w.heap.size w w2 := a.trans (b.mono a.size)

theorem size_len (s : ByteArray) : s.size = s.data.toList.length := rfl
theorem toList_ne {s : ByteArray} (h : s.size ≠ 0) : s.toList.isEmpty = false ∧ ¬ s.toList = [] := by
  have hne : ¬ s.toList = [] := by
    rw [ByteArray.toList_eq]
    intro e
    exact h (by rw [size_len, e]; rfl)
  exact ⟨by simpa using hne, hne⟩
theorem app_data (a b : ByteArray) : (a ++ b).data.toList = a.data.toList ++ b.data.toList := by rw [ByteArray.data_append, Array.toList_append]
theorem ba_eq {a b : ByteArray} (h : a.data.toList = b.data.toList) : a = b := ByteArray.ext (Array.ext' h)
theorem ba_of {l : List UInt8} {S : ByteArray} (h : l = S.data.toList) : (⟨l.toArray⟩ : ByteArray) = S := by rw [h]

/-- w' is w but for new blocks and for the blocks of S. -/
structure Turn (S : Nat → Prop) (w w' : World) : Prop where
  os : w'.os = w.os
  tape : w'.tape = w.tape
  output : w'.output = w.output
  size : w.heap.size ≤ w'.heap.size
  block : ∀ i, i < w.heap.size → ¬ S i → w'.heap[i]? = w.heap[i]?
theorem Turn.refl (S : Nat → Prop) (w : World) : Turn S w w := ⟨rfl, rfl, rfl, Nat.le_refl _, fun _ _ _ => rfl⟩
theorem Turn.trans {S S2 : Nat → Prop} {a b c : World} (h : Turn S a b) (k : Turn S2 b c) (hs : ∀ i, i < a.heap.size → S2 i → S i) : Turn S a c :=
  ⟨k.os.trans h.os, k.tape.trans h.tape, k.output.trans h.output, Nat.le_trans h.size k.size, fun i hi hn => (k.block i (Nat.lt_of_lt_of_le hi h.size) (fun h2 => hn (hs i hi h2))).trans (h.block i hi hn)⟩
theorem Turn.of_below {S : Nat → Prop} {w w' : World} (h : Below w.heap.size w w') : Turn S w w' := ⟨h.os, h.tape, h.output, h.size, fun i hi _ => h.block i hi⟩
theorem Turn.of_grown {w w' : World} {b : Nat} (h : w.grownBy w' (some b)) : Turn (· = b) w w' := ⟨h.os, h.tape, h.output, h.size, fun i hi hn => h.block i hi (fun e => hn (by injection e))⟩
theorem Turn.below {S : Nat → Prop} {B : Nat} {a w w' : World} (hb : Below B a w) (h : Turn S w w') (hB : B ≤ w.heap.size) (hs : ∀ i, S i → B ≤ i) : Below B a w' :=
  hb.trans ⟨h.os, h.tape, h.output, h.size, fun i hi => h.block i (Nat.lt_of_lt_of_le hi hB) (fun h2 => by have := hs i h2; omega)⟩
theorem Turn.mono {S S2 : Nat → Prop} {w w' : World} (h : Turn S w w') (hs : ∀ i, S i → S2 i) : Turn S2 w w' := ⟨h.os, h.tape, h.output, h.size, fun i hi hn => h.block i hi (fun h2 => hn (hs i h2))⟩
theorem Turn.blk {S : Nat → Prop} {w w' : World} {g : Nat} {t : TypeId} {cs : Array Value} (h : Turn S w w') (hb : Blk w g t cs) (hn : ¬ S g) : Blk w' g t cs := (h.block g hb.lt hn).trans hb
theorem ownsMap_tight {H : Type} {P : Program} {k : TypeId} {R : Value → Option (DataW H × List MemPlace)} {w : World} {b n : Nat} {D : DataW H} (h : w.ownsMap P k R b n D) : w.ownsMap P k R b (Maps.size D) D := by
  obtain ⟨es, clock, hb, F, hs, rfl⟩ := h
  exact ⟨es, clock, hb, F, by simp [Maps.size, length_sorted], rfl⟩
theorem ownsMap_turn {H : Type} {P : Program} {k : TypeId} {R : Value → Option (DataW H × List MemPlace)} {w w' : World} {b n : Nat} {D : DataW H} {S : Nat → Prop} (h : w.ownsMap P k R b n D) (hT : Turn S w w') (hn : ¬ S b) : w'.ownsMap P k R b n D := by
  have hlt := h.lt
  obtain ⟨es, clock, hb, F, hs, hD⟩ := h
  exact ⟨es, clock, (hT.block b hlt hn).trans hb, F, hs, hD⟩
theorem blk_ne {w : World} {g g' : Nat} {t t' : TypeId} {cs cs' : Array Value} (h : Blk w g t cs) (h' : Blk w g' t' cs') (hne : t ≠ t') : g ≠ g' := by
  rintro rfl
  unfold Blk at h h'
  rw [h] at h'
  injection h' with h'
  injection h' with _ ht
  exact hne ht
theorem map_ne_cells {H : Type} {P : Program} {k : TypeId} {R : Value → Option (DataW H × List MemPlace)} {w : World} {g bm n : Nat} {D : DataW H} {t : TypeId} {cs : Array Value} {fr : Nat × Nat} (h : w.heap[g]? = some (.cells cs t fr)) (ho : w.ownsMap P k R bm n D) : g ≠ bm := by
  rintro rfl
  obtain ⟨es, clock, hb, _⟩ := ho
  rw [h] at hb
  injection hb with hb
  cases hb
variable {w w' : World}
theorem blkAdd (a : Addr) (n : Nat) : (a.add n).block = a.block := by unfold Addr.add; split <;> rfl
theorem cell_lt {w : World} {p : Addr} {v : Value} (h : w.cell? p = some v) : p.block < w.heap.size := by
  rcases Nat.lt_or_ge p.block w.heap.size with hlt | hge
  · exact hlt
  · unfold World.cell? at h
    rw [Array.getElem?_eq_none hge] at h
    cases h
theorem cell_same {w w' : World} {p : Addr} (h : w'.heap[p.block]? = w.heap[p.block]?) : w'.cell? p = w.cell? p := by unfold World.cell?; rw [h]
/-- The blocks of K stay. -/
def Kept (K : Nat → Prop) (w w' : World) : Prop := ∀ i, K i → i < w.heap.size → w'.heap[i]? = w.heap[i]?
theorem Kept.of_turn {K S : Nat → Prop} {w w' : World} (h : Turn S w w') (hs : ∀ i, K i → ¬ S i) : Kept K w w' := fun i hk hi => h.block i hi (hs i hk)
theorem Kept.of_below {K : Nat → Prop} {B : Nat} {w w' : World} (h : Below B w w') (hs : ∀ i, K i → i < B) : Kept K w w' := fun i hk _ => h.block i (hs i hk)
theorem Kept.of_all {K : Nat → Prop} {w w' : World} (h : Below w.heap.size w w') : Kept K w w' := fun i _ hi => h.block i hi
theorem Kept.cell {K : Nat → Prop} {w w' : World} (h : Kept K w w') {g o : Nat} {v : Value} (hk : K g) (hc : w.cell? ⟨g, o, none⟩ = some v) : w'.cell? ⟨g, o, none⟩ = some v :=
  (cell_same (w := w) (w' := w') (p := ⟨g, o, none⟩) (h _ hk (cell_lt hc))).trans hc
/-- A slice whose elements read, from a block of K. -/
def RowAt {α : Type} (sz : Nat) (R : World → Nat → Nat → α → Prop) (K : Nat → Prop) (w : World) (v : Value) (l : List α) : Prop :=
  ∃ A cap, v = .slice A l.length cap ∧ l.length ≤ cap ∧ cap ≤ maxLen ∧ (0 < l.length → ∃ g off, A = some ⟨g, off, none⟩ ∧ K g ∧ ∀ (i : Nat) x, l[i]? = some x → R w g (off + i * sz) x)
theorem RowAt.imp {α : Type} {sz : Nat} {R R' : World → Nat → Nat → α → Prop} {K K' : Nat → Prop} {w w' : World} {v : Value} {l : List α} (h : RowAt sz R K w v l) (hK : ∀ i, K i → K' i)
    (hR : ∀ g o x, x ∈ l → K g → R w g o x → R' w' g o x) : RowAt sz R' K' w' v l := by
  obtain ⟨A, cap, rfl, h1, h2, h3⟩ := h
  refine ⟨A, cap, rfl, h1, h2, fun h0 => ?_⟩
  obtain ⟨g, off, e, ha, hr⟩ := h3 h0
  exact ⟨g, off, e, hK _ ha, fun i x hx => hR _ _ _ (List.mem_of_getElem? hx) ha (hr i x hx)⟩
theorem RowAt.nil {α : Type} {sz : Nat} {R : World → Nat → Nat → α → Prop} {K : Nat → Prop} {w : World} : RowAt sz R K w (.slice none 0 0) ([] : List α) :=
  ⟨none, 0, rfl, Nat.le_refl _, Nat.zero_le _, fun h => absurd h (Nat.lt_irrefl 0)⟩
def strR (w : World) (g o : Nat) (x : ByteArray) : Prop := w.cell? ⟨g, o, none⟩ = some (.string x) ∧ x.size ≤ 140737488351232
theorem turn_set (w : World) (e o : Nat) (x : Value) : Turn (· = e) w (w.setCell ⟨e, o, none⟩ x) :=
  ⟨rfl, rfl, rfl, by simp [World.setCell], fun i _ hn => Below.heap_setCell _ _ _ _ (fun e => hn e)⟩
theorem blk_set {w : World} {e o : Nat} {t : TypeId} {cs : Array Value} (hb : Blk w e t cs) (x : Value) : Blk (w.setCell ⟨e, o, none⟩ x) e t (cs.setIfInBounds o x) := by
  unfold Blk at hb ⊢
  simp [World.setCell, Array.getElem?_modify, hb]
theorem info_parts {t : TypeId} {z : Value} {s b : Nat} (h : (Tryd.prog.info? t).map (fun i => (i.zero, i.size, i.bytes)) = some (some z, s, b)) : ∃ i, Tryd.prog.info? t = some i ∧ i.zero = some z ∧ i.size = s ∧ i.bytes = b := by
  cases hi : Tryd.prog.info? t with
  | none => rw [hi] at h; cases h
  | some i =>
    rw [hi] at h
    simp only [Option.map_some, Option.some.injEq, Prod.mk.injEq] at h
    exact ⟨i, rfl, h.1, h.2.1, h.2.2⟩
theorem cells_list {w : World} {g off : Nat} : ∀ {m : Nat}, (∀ j, j < m → ∃ u, w.cell? ⟨g, off + j, none⟩ = some u ∧ u.oneCell' = true) →
    ∃ news : List Value, news.length = m ∧ (∀ (j : Nat) u, news[j]? = some u → w.cell? ⟨g, off + j, none⟩ = some u) ∧ ∀ u ∈ news, u.oneCell' = true
  | 0, _ => ⟨[], rfl, fun j u h => (by simp at h), fun u h => by cases h⟩
  | m + 1, h => by
    obtain ⟨l, hl, hc, ho⟩ := cells_list (m := m) (fun j hj => h j (by omega))
    obtain ⟨u, hu, hu1⟩ := h m (by omega)
    refine ⟨l ++ [u], by simp [hl], fun j x hx => ?_, fun x hx => ?_⟩
    · rcases Nat.lt_or_ge j m with hj | hj
      · rw [List.getElem?_append_left (by omega)] at hx
        exact hc j x hx
      · rw [List.getElem?_append_right (by omega), hl] at hx
        have e : j = m := by
          rcases Nat.lt_or_ge m j with hlt | _
          · rw [List.getElem?_eq_none (by simp; omega)] at hx; cases hx
          · omega
        subst e
        simp at hx
        rw [← hx]; exact hu
    · rcases List.mem_append.1 hx with hx | hx
      · exact ho x hx
      · rw [List.mem_singleton.1 hx]; exact hu1
theorem own_turn {w w' : World} {b : Nat} {e : TypeId} {sz : Nat} {v : Value} {n : Nat} {xs : List Value} {S : Nat → Prop} (h : w.ownsRow b e sz v n xs) (hT : Turn S w w') (hn : ∀ g, v.ownBlock = some g → ¬ S g) : w'.ownsRow b e sz v n xs := by
  refine ⟨h.1, ?_⟩
  rcases h.2 with h2 | ⟨g, cap, cur, rfl, h3, h4, h5⟩
  · exact .inl h2
  · exact .inr ⟨g, cap, cur, rfl, h3, (show Blk w' g e cur from hT.blk (show Blk w g e cur from h4) (hn g rfl)), h5⟩
theorem own_form2 {b : Nat} {t : TypeId} {sz n : Nat} {v : Value} {xs : List Value} (h : w.ownsRow b t sz v n xs) : ∃ A cap, v = .slice A n cap ∧ n ≤ cap ∧ (0 < n → ∃ g, A = some ⟨g, 0, none⟩) := by
  rcases h.2 with ⟨rfl, e⟩ | ⟨g, cap, cur, rfl, _, _, hc, _⟩
  · exact ⟨none, 0, by rw [e], by omega, fun h => absurd h (by omega)⟩
  · exact ⟨_, cap, rfl, hc, fun _ => ⟨g, rfl⟩⟩
theorem own_ge {b n size : Nat} {t : TypeId} {v : Value} {xs : List Value} {w : World} (h : w.ownsRow b t size v n xs) {g : Nat} (hg : v.ownBlock = some g) : b ≤ g := (h.lt g hg).1
theorem own_base {w : World} {b b' n size : Nat} {t : TypeId} {v : Value} {xs : List Value} (h : w.ownsRow b t size v n xs) (hb : b' ≤ b) : w.ownsRow b' t size v n xs := by
  refine ⟨h.1, ?_⟩
  rcases h.2 with h | ⟨g, cap, cur, hv, hg, hr⟩
  · exact .inl h
  · exact .inr ⟨g, cap, cur, hv, by omega, hr⟩
theorem off_add (g i j : Nat) : (⟨g, i, none⟩ : Addr).add j = ⟨g, i + j, none⟩ := by
  unfold Addr.add
  split
  · rename_i h
    subst h; rfl
  · rfl
theorem cells_new {w : World} {g : Nat} {t : TypeId} {cs : Array Value} (h : Blk w g t cs) : ∀ j u, cs.toList[j]? = some u → w.cell? ((⟨g, 0, none⟩ : Addr).add j) = some u := by
  intro j u hu
  rw [off_add, Nat.zero_add, h.cell j]
  simpa using hu
theorem cell_set {w : World} {g o : Nat} {t : TypeId} {cs : Array Value} (hb : Blk w g t cs) (x : Value) {o' : Nat} (h : o' ≠ o) : (w.setCell ⟨g, o, none⟩ x).cell? ⟨g, o', none⟩ = w.cell? ⟨g, o', none⟩ := by
  rw [(blk_set hb x).cell, hb.cell, Array.getElem?_setIfInBounds]
  rw [if_neg (fun e => h e.symm)]
theorem cell_set_at {w : World} {g o : Nat} {t : TypeId} {cs : Array Value} (hb : Blk w g t cs) (x : Value) (h : o < cs.size) : (w.setCell ⟨g, o, none⟩ x).cell? ⟨g, o, none⟩ = some x := by
  rw [(blk_set hb x).cell, Array.getElem?_setIfInBounds, if_pos rfl, if_pos h]
theorem blk_setCells {g : Nat} {t : TypeId} : ∀ (vs : List Value) (o : Nat) (w : World) (cs : Array Value), Blk w g t cs → ∃ cs', Blk (w.setCells g o vs) g t cs' ∧ cs'.size = cs.size
  | [], o, w, cs, h => ⟨cs, h, rfl⟩
  | v :: vs, o, w, cs, h => by
    obtain ⟨cs', h1, h2⟩ := blk_setCells vs (o + 1) _ _ (blk_set (o := o) h v)
    exact ⟨cs', h1, by rw [h2, Array.size_setIfInBounds]⟩
theorem turn_setCells {g : Nat} : ∀ (vs : List Value) (o : Nat) (w : World), Turn (· = g) w (w.setCells g o vs)
  | [], _, w => Turn.refl _ w
  | v :: vs, o, w => (turn_set w g o v).trans (turn_setCells vs (o + 1) _) (fun _ _ h => h)
theorem run_append_zero {P : Program} (w : World) (t ty e : TypeId) (i : TypeInfo) (ht : P.underlying t = some (.slice e)) (hi : P.info? e = some i) (A : Option Addr) (n c : Nat) (hn : n ≤ c) (A2 : Option Addr) (c2 : Nat) :
    (Builtin.append_ #[t, t] ty #[.slice A n c, .slice A2 0 c2]).run P w = .ok (.slice A n c) w := by
  cases A <;> cases A2 <;> simp [Builtin.append_, run_underlying ht, sizeOf, typeInfo, hi, Builtin.lenOf, Builtin.firstCells, loadCells, loadCellsFrom, storeCells, hn]
theorem Turn.of_row {row : Option Nat} (h : w.grownBy w' row) : Turn (fun i => row = some i) w w' := ⟨h.os, h.tape, h.output, h.size, fun i hi hn => h.block i hi (fun e => hn e.symm)⟩
theorem below_drewN {B : Nat} {a w : World} (h : Below B a w) (n : Nat) : Below B a (w.drewN n) := ⟨h.os, h.tape, h.output, h.size, h.block⟩
theorem own_cellAt {w : World} {b n size cap g : Nat} {t : TypeId} {xs : List Value} (h : w.ownsRow b t size (.slice (some ⟨g, 0, none⟩) n cap) n xs) {j : Nat} {u : Value} (hj : xs[j]? = some u) : w.cell? ⟨g, j, none⟩ = some u := by
  have hlt := (List.getElem?_eq_some_iff.1 hj).1
  rw [h.1] at hlt
  rw [h.cellAt j hlt, hj]
theorem own_pos {w : World} {b n size : Nat} {t : TypeId} {v : Value} {xs : List Value} (h : w.ownsRow b t size v n xs) (hn : 0 < n) : ∃ g cap, v = .slice (some ⟨g, 0, none⟩) n cap ∧ n ≤ cap ∧ cap ≤ maxLen ∧ v.ownBlock = some g := by
  rcases h.2 with ⟨_, e⟩ | ⟨g, cap, cur, rfl, _, _, hc, hm, _⟩
  · omega
  · exact ⟨g, cap, rfl, hc, hm, rfl⟩
/-- Texts in a row. -/
abbrev SsAt (K : Nat → Prop) := RowAt 1 strR K
theorem SsAt.stay {K K' : Nat → Prop} {w w' : World} {v : Value} {l : List ByteArray} (h : SsAt K w v l) (hw : Kept K w w') (hK : ∀ i, K i → K' i) : SsAt K' w' v l :=
  RowAt.imp h hK (fun _ _ _ _ ha hr => ⟨hw.cell ha hr.1, hr.2⟩)
theorem string_info : (Tryd.prog.info? 9).map (fun i => (i.zero, i.size, i.bytes)) = some (some (.string ⟨#[]⟩), 1, 16) := by kernel_rfl
theorem ext_data (s : ByteArray) (a b : Nat) : (s.extract a b).data.toList = (s.data.toList.take b).drop a := by
  rw [ByteArray.data_extract, Array.toList_extract]
  simp [List.drop_take]
theorem ext_all (s : ByteArray) : s.extract 0 s.size = s := ba_eq (by rw [ext_data, List.drop_zero, List.take_of_length_le (Nat.le_refl s.size)])
/-- Texts that the call itself has laid. -/
theorem own_strs {w : World} {b : Nat} {v : Value} {L : List ByteArray} (h : w.ownsRow b 9 1 v L.length (L.map Value.string)) (hs : ∀ x ∈ L, x.size ≤ 140737488351232) : SsAt (fun k => b ≤ k ∧ k < w.heap.size) w v L := by
  rcases h.2 with ⟨rfl, e⟩ | ⟨g, cap, cur, rfl, hb, hg, hn, hm, _⟩
  · exact ⟨none, 0, by rw [e], by omega, Nat.zero_le _, fun h => absurd h (by omega)⟩
  · refine ⟨_, cap, rfl, hn, hm, fun _ => ⟨g, 0, rfl, ⟨hb, (show Blk w g 9 cur from hg).lt⟩, fun i x hx => ⟨?_, hs x (List.mem_of_getElem? hx)⟩⟩⟩
    rw [Nat.zero_add, Nat.mul_one]
    exact own_cellAt h (by rw [List.getElem?_map, hx]; rfl)
end Go.Proofs.YtfcbpehgkpmniaaDoor
