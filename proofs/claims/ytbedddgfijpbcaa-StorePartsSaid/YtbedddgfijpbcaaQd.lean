/- Numbers, boxes and lines that are read from memory. -/
import Derived.Test.YtbedddgfijpbcaaQc
namespace Go.Proofs.Ytbedddgfijpbcaa
open Go.RowKit

theorem blkAdd (a : Addr) (n : Nat) : (a.add n).block = a.block := by unfold Addr.add; split <;> rfl
theorem cell_lt {w : World} {p : Addr} {v : Value} (h : w.cell? p = some v) : p.block < w.heap.size := by
  rcases Nat.lt_or_ge p.block w.heap.size with hlt | hge
  · exact hlt
  · unfold World.cell? at h
    rw [Array.getElem?_eq_none hge] at h
    cases h
theorem cell_same {w w' : World} {p : Addr} (h : w'.heap[p.block]? = w.heap[p.block]?) : w'.cell? p = w.cell? p := by unfold World.cell?; rw [h]
/-- The blocks of K stay. -/
def Kept (K : Nat → Prop) (w w' : World) : Prop := ∀ i, K i → i < w.heap.size → w'.heap[i]? = w.heap[i]?
theorem Kept.of_turn {K S : Nat → Prop} {w w' : World} (h : Turn S w w') (hs : ∀ i, K i → ¬ S i) : Kept K w w' := fun i hk hi => h.block i hi (hs i hk)
theorem Kept.of_below {K : Nat → Prop} {B : Nat} {w w' : World} (h : Below B w w') (hs : ∀ i, K i → i < B) : Kept K w w' := fun i hk _ => h.block i (hs i hk)
theorem Kept.of_all {K : Nat → Prop} {w w' : World} (h : Below w.heap.size w w') : Kept K w w' := fun i _ hi => h.block i hi
theorem Kept.cell {K : Nat → Prop} {w w' : World} (h : Kept K w w') {a : Addr} {o : Nat} {v : Value} (hk : K a.block) (hc : w.cell? (a.add o) = some v) : w'.cell? (a.add o) = some v := by
  have hl := cell_lt hc
  rw [blkAdd] at hl
  exact (cell_same (w := w) (w' := w') (by rw [blkAdd]; exact h _ hk hl)).trans hc
/-- A slice whose elements read, from a block of K. -/
def RowAt {α : Type} (sz : Nat) (R : World → Addr → Nat → α → Prop) (K : Nat → Prop) (w : World) (v : Value) (l : List α) : Prop :=
  ∃ A cap, v = .slice A l.length cap ∧ l.length ≤ cap ∧ cap ≤ maxLen ∧ (0 < l.length → ∃ a, A = some a ∧ K a.block ∧ ∀ (i : Nat) x, l[i]? = some x → R w a (i * sz) x)
theorem RowAt.imp {α : Type} {sz : Nat} {R R' : World → Addr → Nat → α → Prop} {K K' : Nat → Prop} {w w' : World} {v : Value} {l : List α} (h : RowAt sz R K w v l) (hK : ∀ i, K i → K' i)
    (hR : ∀ a o x, x ∈ l → K a.block → R w a o x → R' w' a o x) : RowAt sz R' K' w' v l := by
  obtain ⟨A, cap, rfl, h1, h2, h3⟩ := h
  refine ⟨A, cap, rfl, h1, h2, fun h0 => ?_⟩
  obtain ⟨a, e, ha, hr⟩ := h3 h0
  exact ⟨a, e, hK _ ha, fun i x hx => hR _ _ _ (List.mem_of_getElem? hx) ha (hr i x hx)⟩
theorem RowAt.nil {α : Type} {sz : Nat} {R : World → Addr → Nat → α → Prop} {K : Nat → Prop} {w : World} : RowAt sz R K w (.slice none 0 0) ([] : List α) :=
  ⟨none, 0, rfl, Nat.le_refl _, Nat.zero_le _, fun h => absurd h (Nat.lt_irrefl 0)⟩
theorem RowAt.form {α : Type} {sz : Nat} {R : World → Addr → Nat → α → Prop} {K : Nat → Prop} {w : World} {v : Value} {l : List α} (h : RowAt sz R K w v l) : ∃ A cap, v = .slice A l.length cap := by
  obtain ⟨A, cap, e, _⟩ := h
  exact ⟨A, cap, e⟩
structure Bx where
  kind : Int
  width : Int
  font : Int
  size : Int
  name : ByteArray
  colour : ByteArray
  n : List Int
structure Ln where
  text : ByteArray
  made : Bool
  up : Int
  down : Int
  boxes : List Bx
def numR (w : World) (a : Addr) (o : Nat) (x : Int) : Prop := w.cell? (a.add o) = some (.int .i64 x)
def strR (w : World) (a : Addr) (o : Nat) (x : ByteArray) : Prop := w.cell? (a.add o) = some (.string x) ∧ x.size ≤ maxLen
abbrev NsAt (K : Nat → Prop) := RowAt 1 numR K
structure bxR (K : Nat → Prop) (w : World) (a : Addr) (o : Nat) (b : Bx) : Prop where
  c0 : w.cell? (a.add o) = some (.int .i64 b.kind)
  c1 : w.cell? (a.add (o + 1)) = some (.int .i64 b.width)
  c2 : w.cell? (a.add (o + 2)) = some (.int .i64 b.font)
  c3 : w.cell? (a.add (o + 3)) = some (.int .i64 b.size)
  c4 : w.cell? (a.add (o + 4)) = some (.string b.name)
  c5 : w.cell? (a.add (o + 5)) = some (.string b.colour)
  c6 : ∃ v, w.cell? (a.add (o + 6)) = some v ∧ NsAt K w v b.n
abbrev BxsAt (K : Nat → Prop) := RowAt 7 (bxR K) K
structure lnR (K : Nat → Prop) (w : World) (a : Addr) (o : Nat) (l : Ln) : Prop where
  c0 : w.cell? (a.add o) = some (.string l.text)
  c1 : w.cell? (a.add (o + 1)) = some (.bool l.made)
  c2 : w.cell? (a.add (o + 2)) = some (.int .i64 l.up)
  c3 : w.cell? (a.add (o + 3)) = some (.int .i64 l.down)
  c4 : ∃ v, w.cell? (a.add (o + 4)) = some v ∧ BxsAt K w v l.boxes
  s0 : l.text.size ≤ maxLen
abbrev LnsAt (K : Nat → Prop) := RowAt 5 (lnR K) K
section
variable {K K' : Nat → Prop} {w w' : World}
theorem NsAt.stay {v : Value} {l : List Int} (h : NsAt K w v l) (hw : Kept K w w') (hK : ∀ i, K i → K' i) : NsAt K' w' v l :=
  RowAt.imp h hK (fun _ _ _ _ ha hr => hw.cell ha hr)
theorem bxR.stay {a : Addr} {o : Nat} {b : Bx} (ha : K a.block) (h : bxR K w a o b) (hw : Kept K w w') (hK : ∀ i, K i → K' i) : bxR K' w' a o b := by
  obtain ⟨v, hv, hn⟩ := h.c6
  exact ⟨hw.cell ha h.c0, hw.cell ha h.c1, hw.cell ha h.c2, hw.cell ha h.c3, hw.cell ha h.c4, hw.cell ha h.c5, v, hw.cell ha hv, hn.stay hw hK⟩
theorem BxsAt.stay {v : Value} {l : List Bx} (h : BxsAt K w v l) (hw : Kept K w w') (hK : ∀ i, K i → K' i) : BxsAt K' w' v l :=
  RowAt.imp h hK (fun _ _ _ _ ha hr => hr.stay ha hw hK)
theorem lnR.stay {a : Addr} {o : Nat} {l : Ln} (ha : K a.block) (h : lnR K w a o l) (hw : Kept K w w') (hK : ∀ i, K i → K' i) : lnR K' w' a o l := by
  obtain ⟨v, hv, hn⟩ := h.c4
  exact ⟨hw.cell ha h.c0, hw.cell ha h.c1, hw.cell ha h.c2, hw.cell ha h.c3, ⟨v, hw.cell ha hv, hn.stay hw hK⟩, h.s0⟩
theorem lnR.shift {a a' : Addr} {o o' : Nat} {l : Ln} (h : lnR K w a o l) (e : ∀ j, a.add (o + j) = a'.add (o' + j)) : lnR K w a' o' l := by
  obtain ⟨v, hv, hn⟩ := h.c4
  have e0 := e 0
  rw [Nat.add_zero, Nat.add_zero] at e0
  exact ⟨by rw [← e0]; exact h.c0, by rw [← e 1]; exact h.c1, by rw [← e 2]; exact h.c2, by rw [← e 3]; exact h.c3, ⟨v, by rw [← e 4]; exact hv, hn⟩, h.s0⟩
theorem LnsAt.stay {v : Value} {l : List Ln} (h : LnsAt K w v l) (hw : Kept K w w') (hK : ∀ i, K i → K' i) : LnsAt K' w' v l :=
  RowAt.imp h hK (fun _ _ _ _ ha hr => hr.stay ha hw hK)
end
end Go.Proofs.Ytbedddgfijpbcaa
