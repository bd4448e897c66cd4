/- Numbers, boxes and lines that are read from memory. -/
import Derived.Test.YtbedddgfijpbcaaGreatQc
namespace Go.Proofs.YtbedddgfijpbcaaGreat
open Go.RowKit

theorem blkAdd (a : Addr) (n : Nat) : (a.add n).block = a.block := by unfold Addr.add; split <;> rfl
theorem cell_lt {w : World} {p : Addr} {v : Value} (h : w.cell? p = some v) : p.block < w.heap.size := by
  rcases Nat.lt_or_ge p.block w.heap.size with hlt | hge
  · exact hlt
  · unfold World.cell? at h
    rw [Array.getElem?_eq_none hge] at h
    cases h
theorem cell_same {w w' : World} {p : Addr} (h : w'.heap[p.block]? = w.heap[p.block]?) : w'.cell? p = w.cell? p := by unfold World.cell?; rw [h]
/-- The blocks of K stay. -/
def Kept (K : Nat → Prop) (w w' : World) : Prop := ∀ i, K i → i < w.heap.size → w'.heap[i]? = w.heap[i]?
theorem Kept.of_turn {K S : Nat → Prop} {w w' : World} (h : Turn S w w') (hs : ∀ i, K i → ¬ S i) : Kept K w w' := fun i hk hi => h.block i hi (hs i hk)
theorem Kept.of_below {K : Nat → Prop} {B : Nat} {w w' : World} (h : Below B w w') (hs : ∀ i, K i → i < B) : Kept K w w' := fun i hk _ => h.block i (hs i hk)
theorem Kept.of_all {K : Nat → Prop} {w w' : World} (h : Below w.heap.size w w') : Kept K w w' := fun i _ hi => h.block i hi
theorem Kept.cell {K : Nat → Prop} {w w' : World} (h : Kept K w w') {g o : Nat} {v : Value} (hk : K g) (hc : w.cell? ⟨g, o, none⟩ = some v) : w'.cell? ⟨g, o, none⟩ = some v :=
  (cell_same (w := w) (w' := w') (p := ⟨g, o, none⟩) (h _ hk (cell_lt hc))).trans hc
/-- A slice whose elements read, from a block of K. -/
def RowAt {α : Type} (sz : Nat) (R : World → Nat → Nat → α → Prop) (K : Nat → Prop) (w : World) (v : Value) (l : List α) : Prop :=
  ∃ A cap, v = .slice A l.length cap ∧ l.length ≤ cap ∧ cap ≤ maxLen ∧ (0 < l.length → ∃ g off, A = some ⟨g, off, none⟩ ∧ K g ∧ ∀ (i : Nat) x, l[i]? = some x → R w g (off + i * sz) x)
theorem RowAt.imp {α : Type} {sz : Nat} {R R' : World → Nat → Nat → α → Prop} {K K' : Nat → Prop} {w w' : World} {v : Value} {l : List α} (h : RowAt sz R K w v l) (hK : ∀ i, K i → K' i)
    (hR : ∀ g o x, x ∈ l → K g → R w g o x → R' w' g o x) : RowAt sz R' K' w' v l := by
  obtain ⟨A, cap, rfl, h1, h2, h3⟩ := h
  refine ⟨A, cap, rfl, h1, h2, fun h0 => ?_⟩
  obtain ⟨g, off, e, ha, hr⟩ := h3 h0
  exact ⟨g, off, e, hK _ ha, fun i x hx => hR _ _ _ (List.mem_of_getElem? hx) ha (hr i x hx)⟩
theorem RowAt.nil {α : Type} {sz : Nat} {R : World → Nat → Nat → α → Prop} {K : Nat → Prop} {w : World} : RowAt sz R K w (.slice none 0 0) ([] : List α) :=
  ⟨none, 0, rfl, Nat.le_refl _, Nat.zero_le _, fun h => absurd h (Nat.lt_irrefl 0)⟩
structure Bx where
  kind : Int
  width : Int
  font : Int
  size : Int
  name : ByteArray
  colour : ByteArray
  n : List Int
structure Ln where
  text : ByteArray
  made : Bool
  up : Int
  down : Int
  boxes : List Bx
def numR (w : World) (g o : Nat) (x : Int) : Prop := w.cell? ⟨g, o, none⟩ = some (.int .i64 x)
def strR (w : World) (g o : Nat) (x : ByteArray) : Prop := w.cell? ⟨g, o, none⟩ = some (.string x) ∧ x.size ≤ 140737488351232
abbrev NsAt (K : Nat → Prop) := RowAt 1 numR K
structure bxR (K : Nat → Prop) (w : World) (g o : Nat) (b : Bx) : Prop where
  c0 : w.cell? ⟨g, o, none⟩ = some (.int .i64 b.kind)
  c1 : w.cell? ⟨g, o + 1, none⟩ = some (.int .i64 b.width)
  c2 : w.cell? ⟨g, o + 2, none⟩ = some (.int .i64 b.font)
  c3 : w.cell? ⟨g, o + 3, none⟩ = some (.int .i64 b.size)
  c4 : w.cell? ⟨g, o + 4, none⟩ = some (.string b.name)
  c5 : w.cell? ⟨g, o + 5, none⟩ = some (.string b.colour)
  c6 : ∃ v, w.cell? ⟨g, o + 6, none⟩ = some v ∧ NsAt K w v b.n
  s6 : b.n.length * 8 ≤ 140737488355328
abbrev BxsAt (K : Nat → Prop) := RowAt 7 (bxR K) K
structure lnR (K : Nat → Prop) (w : World) (g o : Nat) (l : Ln) : Prop where
  c0 : w.cell? ⟨g, o, none⟩ = some (.string l.text)
  c1 : w.cell? ⟨g, o + 1, none⟩ = some (.bool l.made)
  c2 : w.cell? ⟨g, o + 2, none⟩ = some (.int .i64 l.up)
  c3 : w.cell? ⟨g, o + 3, none⟩ = some (.int .i64 l.down)
  c4 : ∃ v, w.cell? ⟨g, o + 4, none⟩ = some v ∧ BxsAt K w v l.boxes
  s0 : l.text.size ≤ 140737488351232
  s4 : l.boxes.length ≤ 1599289640401
abbrev LnsAt (K : Nat → Prop) := RowAt 5 (lnR K) K
section
variable {K K' : Nat → Prop} {w w' : World}
theorem NsAt.stay {v : Value} {l : List Int} (h : NsAt K w v l) (hw : Kept K w w') (hK : ∀ i, K i → K' i) : NsAt K' w' v l :=
  RowAt.imp h hK (fun _ _ _ _ ha hr => hw.cell ha hr)
theorem bxR.stay {g o : Nat} {b : Bx} (ha : K g) (h : bxR K w g o b) (hw : Kept K w w') (hK : ∀ i, K i → K' i) : bxR K' w' g o b := by
  obtain ⟨v, hv, hn⟩ := h.c6
  exact ⟨hw.cell ha h.c0, hw.cell ha h.c1, hw.cell ha h.c2, hw.cell ha h.c3, hw.cell ha h.c4, hw.cell ha h.c5, ⟨v, hw.cell ha hv, hn.stay hw hK⟩, h.s6⟩
theorem BxsAt.stay {v : Value} {l : List Bx} (h : BxsAt K w v l) (hw : Kept K w w') (hK : ∀ i, K i → K' i) : BxsAt K' w' v l :=
  RowAt.imp h hK (fun _ _ _ _ ha hr => hr.stay ha hw hK)
theorem lnR.stay {g o : Nat} {l : Ln} (ha : K g) (h : lnR K w g o l) (hw : Kept K w w') (hK : ∀ i, K i → K' i) : lnR K' w' g o l := by
  obtain ⟨v, hv, hn⟩ := h.c4
  exact ⟨hw.cell ha h.c0, hw.cell ha h.c1, hw.cell ha h.c2, hw.cell ha h.c3, ⟨v, hw.cell ha hv, hn.stay hw hK⟩, h.s0, h.s4⟩
theorem LnsAt.stay {v : Value} {l : List Ln} (h : LnsAt K w v l) (hw : Kept K w w') (hK : ∀ i, K i → K' i) : LnsAt K' w' v l :=
  RowAt.imp h hK (fun _ _ _ _ ha hr => hr.stay ha hw hK)
end
end Go.Proofs.YtbedddgfijpbcaaGreat
