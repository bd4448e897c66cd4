/- Blocks in memory; what has turned; strings whose bytes are as asked. Numbers, boxes and lines that are read from memory. Which texts and lines are right. -/
import Derived.Test.YtpgkhhchpojlaaaGreatDoorProg
import Derived.Handy
import Derived.WalkLawsBesides
import Derived.WalkSpells
import Derived.Lib.Hide
import Derived.Laws.OwnMore
import Derived.Deep.Draws
import Derived.Outline
import Derived.BigQuiet
import Derived.Deep.QuietTactic
import Derived.IntWalk
import Derived.Maps.OwnSet
import Derived.Maps.RangeWalk
import Derived.ProofKit
namespace Go.Proofs.YtpgkhhchpojlaaaGreatDoor
open Go.RowKit Go.Maps Go.WideMaps

theorem ret_i {k : IntKind} {a b : Int} (h : a = b) : Ending.returned (.int k a) = .returned (.int k b) := by rw [h]
theorem ret_b {a b : Bool} (h : a = b) : Ending.returned (.bool a) = .returned (.bool b) := by rw [h]

/-- No error, or the error k. -/
def erI : Bool → Int → Int
  | true, _ => 0
  | false, k => k
/-- Every byte of a string is as asked. -/
def allB (p : Nat → Bool) (s : ByteArray) : Bool := s.data.toList.all fun c => p c.toNat
theorem allB_yes {p : Nat → Bool} {s : ByteArray} (h : ∀ (j : Nat) (hj : j < s.size), p s[j].toNat = true) : allB p s = true := by
  unfold allB
  rw [List.all_eq_true]
  intro c hc
  obtain ⟨j, hj, rfl⟩ := List.getElem_of_mem hc
  have hj' : j < s.size := by simpa using hj
  exact h j hj'
theorem allB_no {p : Nat → Bool} {s : ByteArray} (j : Nat) (hj : j < s.size) (h : p s[j].toNat = false) : allB p s = false := by
  unfold allB
  rw [List.all_eq_false]
  exact ⟨s[j], by simp [ByteArray.getElem_eq_getElem_data], by simp [h]⟩
/-- A block that is known whole. -/
def Blk (w : World) (g : Nat) (t : TypeId) (cs : Array Value) : Prop := w.heap[g]? = some (.cells cs t (0, 0))
section
variable {w w' : World} {g : Nat} {t : TypeId} {cs : Array Value}
theorem Blk.lt (h : Blk w g t cs) : g < w.heap.size := by
  rcases Nat.lt_or_ge g w.heap.size with hlt | hge
  · exact hlt
  · unfold Blk at h; rw [Array.getElem?_eq_none hge] at h; cases h
theorem Blk.cell (h : Blk w g t cs) (i : Nat) : w.cell? ⟨g, i, none⟩ = cs[i]? := cell_of_row w g i cs t (0, 0) h
theorem Blk.frozen (h : Blk w g t cs) (i : Nat) : w.frozen? ⟨g, i, none⟩ = false := by
  unfold Blk at h
  simp [World.frozen?, h]
theorem Blk.new (w : World) (t : TypeId) (cs : Array Value) : Blk (w.alloc (.cells cs t)) w.heap.size t cs := heap_alloc_new w _
theorem Blk.drew (h : Blk w g t cs) : Blk w.drew g t cs := h
theorem Blk.drewN (h : Blk w g t cs) (n : Nat) : Blk (w.drewN n) g t cs := h
theorem Blk.alloc (h : Blk w g t cs) (o : Obj) : Blk (w.alloc o) g t cs := (Below.heap_alloc w o g h.lt).trans h
theorem Blk.far (h : Blk w g t cs) {p : Addr} (hp : g ≠ p.block) (u : Value) : Blk (w.setCell p u) g t cs := (Below.heap_setCell w p u g hp).trans h
theorem Blk.below {B : Nat} (h : Blk w g t cs) (hb : Below B w w') (hg : g < B) : Blk w' g t cs := (hb.block g hg).trans h
theorem Blk.grown {row : Option Nat} (h : Blk w g t cs) (hb : w.grownBy w' row) (hg : some g ≠ row) : Blk w' g t cs := (hb.block g h.lt hg).trans h
end
theorem ntrans {w w1 w2 : World} (a : Below w.heap.size w w1) (b : Below w1.heap.size w1 w2) : Below w.heap.size w w2 := a.trans (b.mono a.size)

theorem size_len (s : ByteArray) : s.size = s.data.toList.length := rfl
theorem toList_ne {s : ByteArray} (h : s.size ≠ 0) : s.toList.isEmpty = false ∧ ¬ s.toList = [] := by
  have hne : ¬ s.toList = [] := by
    rw [ByteArray.toList_eq]
    intro e
    exact h (by rw [size_len, e]; rfl)
  exact ⟨by simpa using hne, hne⟩
theorem app_data (a b : ByteArray) : (a ++ b).data.toList = a.data.toList ++ b.data.toList := by rw [ByteArray.data_append, Array.toList_append]
theorem ba_eq {a b : ByteArray} (h : a.data.toList = b.data.toList) : a = b := ByteArray.ext (Array.ext' h)
theorem ba_of {l : List UInt8} {S : ByteArray} (h : l = S.data.toList) : (⟨l.toArray⟩ : ByteArray) = S := by rw [h]

/-- w' is w but for new blocks and for the blocks of S. -/
structure Turn (S : Nat → Prop) (w w' : World) : Prop where
  os : w'.os = w.os
  tape : w'.tape = w.tape
  output : w'.output = w.output
  size : w.heap.size ≤ w'.heap.size
  block : ∀ i, i < w.heap.size → ¬ S i → w'.heap[i]? = w.heap[i]?
theorem Turn.refl (S : Nat → Prop) (w : World) : Turn S w w := ⟨rfl, rfl, rfl, Nat.le_refl _, fun _ _ _ => rfl⟩
theorem Turn.trans {S S2 : Nat → Prop} {a b c : World} (h : Turn S a b) (k : Turn S2 b c) (hs : ∀ i, i < a.heap.size → S2 i → S i) : Turn S a c :=
  ⟨k.os.trans h.os, k.tape.trans h.tape, k.output.trans h.output, Nat.le_trans h.size k.size, fun i hi hn => (k.block i (Nat.lt_of_lt_of_le hi h.size) (fun h2 => hn (hs i hi h2))).trans (h.block i hi hn)⟩
theorem Turn.of_below {S : Nat → Prop} {w w' : World} (h : Below w.heap.size w w') : Turn S w w' := ⟨h.os, h.tape, h.output, h.size, fun i hi _ => h.block i hi⟩
theorem Turn.of_grown {w w' : World} {b : Nat} (h : w.grownBy w' (some b)) : Turn (· = b) w w' := ⟨h.os, h.tape, h.output, h.size, fun i hi hn => h.block i hi (fun e => hn (by injection e))⟩
theorem Turn.below {S : Nat → Prop} {B : Nat} {a w w' : World} (hb : Below B a w) (h : Turn S w w') (hB : B ≤ w.heap.size) (hs : ∀ i, S i → B ≤ i) : Below B a w' :=
  hb.trans ⟨h.os, h.tape, h.output, h.size, fun i hi => h.block i (Nat.lt_of_lt_of_le hi hB) (fun h2 => by have := hs i h2; omega)⟩
theorem Turn.mono {S S2 : Nat → Prop} {w w' : World} (h : Turn S w w') (hs : ∀ i, S i → S2 i) : Turn S2 w w' := ⟨h.os, h.tape, h.output, h.size, fun i hi hn => h.block i hi (fun h2 => hn (hs i h2))⟩
theorem Turn.blk {S : Nat → Prop} {w w' : World} {g : Nat} {t : TypeId} {cs : Array Value} (h : Turn S w w') (hb : Blk w g t cs) (hn : ¬ S g) : Blk w' g t cs := (h.block g hb.lt hn).trans hb
theorem ownsMap_tight {H : Type} {P : Program} {k : TypeId} {R : Value → Option (DataW H × List MemPlace)} {w : World} {b n : Nat} {D : DataW H} (h : w.ownsMap P k R b n D) : w.ownsMap P k R b (Maps.size D) D := by
  obtain ⟨es, clock, hb, F, hs, rfl⟩ := h
  exact ⟨es, clock, hb, F, by simp [Maps.size, length_sorted], rfl⟩
theorem ownsMap_turn {H : Type} {P : Program} {k : TypeId} {R : Value → Option (DataW H × List MemPlace)} {w w' : World} {b n : Nat} {D : DataW H} {S : Nat → Prop} (h : w.ownsMap P k R b n D) (hT : Turn S w w') (hn : ¬ S b) : w'.ownsMap P k R b n D := by
  have hlt := h.lt
  obtain ⟨es, clock, hb, F, hs, hD⟩ := h
  exact ⟨es, clock, (hT.block b hlt hn).trans hb, F, hs, hD⟩
theorem blk_ne {w : World} {g g' : Nat} {t t' : TypeId} {cs cs' : Array Value} (h : Blk w g t cs) (h' : Blk w g' t' cs') (hne : t ≠ t') : g ≠ g' := by
  rintro rfl
  unfold Blk at h h'
  rw [h] at h'
  injection h' with h'
  injection h' with _ ht
  exact hne ht
theorem map_ne_cells {H : Type} {P : Program} {k : TypeId} {R : Value → Option (DataW H × List MemPlace)} {w : World} {g bm n : Nat} {D : DataW H} {t : TypeId} {cs : Array Value} {fr : Nat × Nat} (h : w.heap[g]? = some (.cells cs t fr)) (ho : w.ownsMap P k R bm n D) : g ≠ bm := by
  rintro rfl
  obtain ⟨es, clock, hb, _⟩ := ho
  rw [h] at hb
  injection hb with hb
  cases hb
end Go.Proofs.YtpgkhhchpojlaaaGreatDoor
namespace Go.Proofs.YtpgkhhchpojlaaaGreatDoor
open Go.RowKit

theorem blkAdd (a : Addr) (n : Nat) : (a.add n).block = a.block := by unfold Addr.add; split <;> rfl
theorem cell_lt {w : World} {p : Addr} {v : Value} (h : w.cell? p = some v) : p.block < w.heap.size := by
  rcases Nat.lt_or_ge p.block w.heap.size with hlt | hge
  · exact hlt
  · unfold World.cell? at h
    rw [Array.getElem?_eq_none hge] at h
    cases h
theorem cell_same {w w' : World} {p : Addr} (h : w'.heap[p.block]? = w.heap[p.block]?) : w'.cell? p = w.cell? p := by unfold World.cell?; rw [h]
/-- The blocks of K stay. -/
def Kept (K : Nat → Prop) (w w' : World) : Prop := ∀ i, K i → i < w.heap.size → w'.heap[i]? = w.heap[i]?
theorem Kept.of_turn {K S : Nat → Prop} {w w' : World} (h : Turn S w w') (hs : ∀ i, K i → ¬ S i) : Kept K w w' := fun i hk hi => h.block i hi (hs i hk)
theorem Kept.of_below {K : Nat → Prop} {B : Nat} {w w' : World} (h : Below B w w') (hs : ∀ i, K i → i < B) : Kept K w w' := fun i hk _ => h.block i (hs i hk)
theorem Kept.of_all {K : Nat → Prop} {w w' : World} (h : Below w.heap.size w w') : Kept K w w' := fun i _ hi => h.block i hi
theorem Kept.cell {K : Nat → Prop} {w w' : World} (h : Kept K w w') {g o : Nat} {v : Value} (hk : K g) (hc : w.cell? ⟨g, o, none⟩ = some v) : w'.cell? ⟨g, o, none⟩ = some v :=
  (cell_same (w := w) (w' := w') (p := ⟨g, o, none⟩) (h _ hk (cell_lt hc))).trans hc
/-- A slice whose elements read, from a block of K. -/
def RowAt {α : Type} (sz : Nat) (R : World → Nat → Nat → α → Prop) (K : Nat → Prop) (w : World) (v : Value) (l : List α) : Prop :=
  ∃ A cap, v = .slice A l.length cap ∧ l.length ≤ cap ∧ cap ≤ maxLen ∧ (0 < l.length → ∃ g off, A = some ⟨g, off, none⟩ ∧ K g ∧ ∀ (i : Nat) x, l[i]? = some x → R w g (off + i * sz) x)
theorem RowAt.imp {α : Type} {sz : Nat} {R R' : World → Nat → Nat → α → Prop} {K K' : Nat → Prop} {w w' : World} {v : Value} {l : List α} (h : RowAt sz R K w v l) (hK : ∀ i, K i → K' i)
    (hR : ∀ g o x, x ∈ l → K g → R w g o x → R' w' g o x) : RowAt sz R' K' w' v l := by
  obtain ⟨A, cap, rfl, h1, h2, h3⟩ := h
  refine ⟨A, cap, rfl, h1, h2, fun h0 => ?_⟩
  obtain ⟨g, off, e, ha, hr⟩ := h3 h0
  exact ⟨g, off, e, hK _ ha, fun i x hx => hR _ _ _ (List.mem_of_getElem? hx) ha (hr i x hx)⟩
theorem RowAt.nil {α : Type} {sz : Nat} {R : World → Nat → Nat → α → Prop} {K : Nat → Prop} {w : World} : RowAt sz R K w (.slice none 0 0) ([] : List α) :=
  ⟨none, 0, rfl, Nat.le_refl _, Nat.zero_le _, fun h => absurd h (Nat.lt_irrefl 0)⟩
structure Bx where
  kind : Int
  width : Int
  font : Int
  size : Int
  name : ByteArray
  colour : ByteArray
  n : List Int
structure Ln where
  text : ByteArray
  made : Bool
  up : Int
  down : Int
  boxes : List Bx
def numR (w : World) (g o : Nat) (x : Int) : Prop := w.cell? ⟨g, o, none⟩ = some (.int .i64 x)
def strR (w : World) (g o : Nat) (x : ByteArray) : Prop := w.cell? ⟨g, o, none⟩ = some (.string x) ∧ x.size ≤ 140737488351232
abbrev NsAt (K : Nat → Prop) := RowAt 1 numR K
structure bxR (K : Nat → Prop) (w : World) (g o : Nat) (b : Bx) : Prop where
  c0 : w.cell? ⟨g, o, none⟩ = some (.int .i64 b.kind)
  c1 : w.cell? ⟨g, o + 1, none⟩ = some (.int .i64 b.width)
  c2 : w.cell? ⟨g, o + 2, none⟩ = some (.int .i64 b.font)
  c3 : w.cell? ⟨g, o + 3, none⟩ = some (.int .i64 b.size)
  c4 : w.cell? ⟨g, o + 4, none⟩ = some (.string b.name)
  c5 : w.cell? ⟨g, o + 5, none⟩ = some (.string b.colour)
  c6 : ∃ v, w.cell? ⟨g, o + 6, none⟩ = some v ∧ NsAt K w v b.n
  s6 : b.n.length * 8 ≤ 140737488355328
abbrev BxsAt (K : Nat → Prop) := RowAt 7 (bxR K) K
structure lnR (K : Nat → Prop) (w : World) (g o : Nat) (l : Ln) : Prop where
  c0 : w.cell? ⟨g, o, none⟩ = some (.string l.text)
  c1 : w.cell? ⟨g, o + 1, none⟩ = some (.bool l.made)
  c2 : w.cell? ⟨g, o + 2, none⟩ = some (.int .i64 l.up)
  c3 : w.cell? ⟨g, o + 3, none⟩ = some (.int .i64 l.down)
  c4 : ∃ v, w.cell? ⟨g, o + 4, none⟩ = some v ∧ BxsAt K w v l.boxes
  s0 : l.text.size ≤ 140737488351232
  s4 : l.boxes.length ≤ 1599289640401
abbrev LnsAt (K : Nat → Prop) := RowAt 5 (lnR K) K
section
variable {K K' : Nat → Prop} {w w' : World}
theorem NsAt.stay {v : Value} {l : List Int} (h : NsAt K w v l) (hw : Kept K w w') (hK : ∀ i, K i → K' i) : NsAt K' w' v l :=
  RowAt.imp h hK (fun _ _ _ _ ha hr => hw.cell ha hr)
theorem bxR.stay {g o : Nat} {b : Bx} (ha : K g) (h : bxR K w g o b) (hw : Kept K w w') (hK : ∀ i, K i → K' i) : bxR K' w' g o b := by
  obtain ⟨v, hv, hn⟩ := h.c6
  exact ⟨hw.cell ha h.c0, hw.cell ha h.c1, hw.cell ha h.c2, hw.cell ha h.c3, hw.cell ha h.c4, hw.cell ha h.c5, ⟨v, hw.cell ha hv, hn.stay hw hK⟩, h.s6⟩
theorem BxsAt.stay {v : Value} {l : List Bx} (h : BxsAt K w v l) (hw : Kept K w w') (hK : ∀ i, K i → K' i) : BxsAt K' w' v l :=
  RowAt.imp h hK (fun _ _ _ _ ha hr => hr.stay ha hw hK)
theorem lnR.stay {g o : Nat} {l : Ln} (ha : K g) (h : lnR K w g o l) (hw : Kept K w w') (hK : ∀ i, K i → K' i) : lnR K' w' g o l := by
  obtain ⟨v, hv, hn⟩ := h.c4
  exact ⟨hw.cell ha h.c0, hw.cell ha h.c1, hw.cell ha h.c2, hw.cell ha h.c3, ⟨v, hw.cell ha hv, hn.stay hw hK⟩, h.s0, h.s4⟩
theorem LnsAt.stay {v : Value} {l : List Ln} (h : LnsAt K w v l) (hw : Kept K w w') (hK : ∀ i, K i → K' i) : LnsAt K' w' v l :=
  RowAt.imp h hK (fun _ _ _ _ ha hr => hr.stay ha hw hK)
end
end Go.Proofs.YtpgkhhchpojlaaaGreatDoor
namespace Go.Proofs.YtpgkhhchpojlaaaGreatDoor
open Go.RowKit

/-- Whether a text has no line feed. -/
def noLf (s : ByteArray) : Bool := allB (fun c => decide (c ≠ 10)) s
theorem noLf_all (s : ByteArray) : noLf s = allB (fun c => decide (c ≠ 10)) s := rfl
def textB (s : ByteArray) : Bool := decide (s.size ≤ 2000) && noLf s
def motB (n : Int) : Bool := decide (-1000000 ≤ n) && decide (n ≤ 1000000)
/-- Whether the fields are a line's. -/
def lnF (t : ByteArray) (m : Bool) (u d : Int) (n : Nat) : Bool :=
  if m then decide (t = ⟨#[]⟩) && motB u && motB d && decide (n ≤ 2000) else textB t && decide (u = 0) && decide (d = 0) && decide (n = 0)
def lnB (l : Ln) : Bool := lnF l.text l.made l.up l.down l.boxes.length
def lnsB (ls : List Ln) : Bool := ls.all lnB
theorem lns_no {ls : List Ln} {k : Nat} {l : Ln} (h : ls[k]? = some l) (hl : lnB l = false) : lnsB ls = false := by
  unfold lnsB
  rw [List.all_eq_false]
  exact ⟨l, List.mem_of_getElem? h, by simp [hl]⟩
theorem lns_yes {ls : List Ln} (h : ∀ (j : Nat) (l : Ln), ls[j]? = some l → lnB l = true) : lnsB ls = true := by
  unfold lnsB
  rw [List.all_eq_true]
  intro l hl
  obtain ⟨j, hj, rfl⟩ := List.getElem_of_mem hl
  exact h j _ (List.getElem?_eq_getElem hj)
end Go.Proofs.YtpgkhhchpojlaaaGreatDoor
