/- Walk: whether two lines are the same. -/
import Derived.Test.YtpgkhhchpojlaaaGreatDoorLa
namespace Go.Proofs.YtpgkhhchpojlaaaGreatDoor
open Go.RowKit

theorem blk_at {w : World} {t : TypeId} {cs : Array Value} {k : Nat} (h : w.heap.size = k) : Blk (w.alloc (.cells cs t)) k t cs := by subst h; exact Blk.new _ _ _
/-- One line in a row of its own. -/
theorem one_line {K K' : Nat → Prop} {w w' : World} {g : Nat} {l : Ln} {v : Value} (hb : Blk w' g 31 #[.string l.text, .bool l.made, .int .i64 l.up, .int .i64 l.down, v]) (hg : K' g) (h : BxsAt K w v l.boxes) (hw : Kept K w w') (hK : ∀ i, K i → K' i) (hs0 : l.text.size ≤ 140737488351232) (hs4 : l.boxes.length ≤ 1599289640401) :
    LnsAt K' w' (.slice (some ⟨g, 0, none⟩) 1 1) [l] := by
  refine ⟨_, 1, rfl, Nat.le_refl _, by unfold maxLen; omega, fun _ => ⟨g, 0, rfl, hg, fun i x hx => ?_⟩⟩
  have hi : i = 0 := by have := (List.getElem?_eq_some_iff.1 hx).1; simp at this; exact this
  subst hi
  have : l = x := by simpa using hx
  subst this
  exact ⟨hb.cell 0, hb.cell 1, hb.cell 2, hb.cell 3, ⟨v, hb.cell 4, h.stay hw hK⟩, hs0, hs4⟩
set_option maxRecDepth 100000 in
/-- line, of the same. -/
theorem lLine (l : Ln) (K K2 : Nat → Prop) (v v2 : Value) (w : World) (h : BxsAt K w v l.boxes) (h2 : BxsAt K2 w v2 l.boxes) (hK : ∀ k, K k → k < w.heap.size) (hK2 : ∀ k, K2 k → k < w.heap.size) (hs0 : l.text.size ≤ 140737488351232) (hs4 : l.boxes.length ≤ 1599289640401) :
    Calls Tryz.prog 11 #[.agg #[.string l.text, .bool l.made, .int .i64 l.up, .int .i64 l.down, v], .agg #[.string l.text, .bool l.made, .int .i64 l.up, .int .i64 l.down, v2]] w fun e w' => e = .returned (.bool true) ∧ Below w.heap.size w w' := by
  obtain ⟨A, c, rfl, _⟩ := id h
  obtain ⟨A2, c2, rfl, _⟩ := id h2
  obtain ⟨w1, e1⟩ : ∃ w1, w1 = w.alloc (.cells #[.string l.text, .bool l.made, .int .i64 l.up, .int .i64 l.down, .slice A l.boxes.length c] 31) := ⟨_, rfl⟩
  obtain ⟨w2, e2⟩ : ∃ w2, w2 = w1.alloc (.cells #[.string l.text, .bool l.made, .int .i64 l.up, .int .i64 l.down, .slice A2 l.boxes.length c2] 31) := ⟨_, rfl⟩
  obtain ⟨w3, e3⟩ : ∃ w3, w3 = w2.alloc (.cells #[.string l.text, .bool l.made, .int .i64 l.up, .int .i64 l.down, .slice A l.boxes.length c] 31) := ⟨_, rfl⟩
  obtain ⟨w4, e4⟩ : ∃ w4, w4 = w3.alloc (.cells #[.string l.text, .bool l.made, .int .i64 l.up, .int .i64 l.down, .slice A2 l.boxes.length c2] 31) := ⟨_, rfl⟩
  have s1 : w1.heap.size = w.heap.size + 1 := by rw [e1]; simp
  have s2 : w2.heap.size = w.heap.size + 2 := by rw [e2]; simp [s1]
  have s3 : w3.heap.size = w.heap.size + 3 := by rw [e3]; simp [s2]
  have s4 : w4.heap.size = w.heap.size + 4 := by rw [e4]; simp [s3]
  have b1 : Below w.heap.size w w1 := by rw [e1]; exact (Below.refl _ _).alloc (Nat.le_refl _) _
  have b2 : Below w.heap.size w w2 := by rw [e2]; exact b1.alloc b1.size _
  have b3 : Below w.heap.size w w3 := by rw [e3]; exact b2.alloc b2.size _
  have b4 : Below w.heap.size w w4 := by rw [e4]; exact b3.alloc b3.size _
  have q0 : Blk w1 w.heap.size 31 #[.string l.text, .bool l.made, .int .i64 l.up, .int .i64 l.down, .slice A l.boxes.length c] := by rw [e1]; exact Blk.new _ _ _
  have q1 : Blk w2 (w.heap.size + 1) 31 #[.string l.text, .bool l.made, .int .i64 l.up, .int .i64 l.down, .slice A2 l.boxes.length c2] := by rw [e2]; exact blk_at s1
  have q0' : Blk w2 w.heap.size 31 #[.string l.text, .bool l.made, .int .i64 l.up, .int .i64 l.down, .slice A l.boxes.length c] := by rw [e2]; exact q0.alloc _
  have q2 : Blk w3 (w.heap.size + 2) 31 #[.string l.text, .bool l.made, .int .i64 l.up, .int .i64 l.down, .slice A l.boxes.length c] := by rw [e3]; exact blk_at s2
  have q1' : Blk w3 (w.heap.size + 1) 31 #[.string l.text, .bool l.made, .int .i64 l.up, .int .i64 l.down, .slice A2 l.boxes.length c2] := by rw [e3]; exact q1.alloc _
  have q3 : Blk w4 (w.heap.size + 3) 31 #[.string l.text, .bool l.made, .int .i64 l.up, .int .i64 l.down, .slice A2 l.boxes.length c2] := by rw [e4]; exact blk_at s3
  have q2' : Blk w4 (w.heap.size + 2) 31 #[.string l.text, .bool l.made, .int .i64 l.up, .int .i64 l.down, .slice A l.boxes.length c] := by rw [e4]; exact q2.alloc _
  have HS := Lib.hid (lSame (fun i => K i ∨ i = w.heap.size + 2) (fun i => K2 i ∨ i = w.heap.size + 3) (.slice (some ⟨w.heap.size + 2, 0, none⟩) 1 1) (.slice (some ⟨w.heap.size + 3, 0, none⟩) 1 1) [l] w4
    (one_line q2' (.inr rfl) h (Kept.of_below b4 hK) (fun _ h => .inl h) hs0 hs4) (one_line q3 (.inr rfl) h2 (Kept.of_below b4 hK2) (fun _ h => .inl h) hs0 hs4)
    (fun k h => h.elim (fun h => by have := hK k h; omega) (fun h => by omega)) (fun k h => h.elim (fun h => by have := hK2 k h; omega) (fun h => by omega)))
  have B4 := Lib.hid b4
  have d0 := q0'.cell 0
  have d1 := q0'.cell 1
  have d2 := q0'.cell 2
  have d3 := q0'.cell 3
  have d4 := q0'.cell 4
  have f0 := q1'.cell 0
  have f1 := q1'.cell 1
  have f2 := q1'.cell 2
  have f3 := q1'.cell 3
  have f4 := q1'.cell 4
  simp only [List.getElem?_toArray, List.getElem?_cons_zero, List.getElem?_cons_succ] at d0 d1 d2 d3 d4 f0 f1 f2 f3 f4
  clear q0 q1 q0' q2 q1' q3 q2' b1 b2 b3 b4 s1 s2 s3 s4 h h2 hK hK2
  subst e4 e3 e2 e1
  go_enter Tryz.func11, Tryz.ntmps11
  go_wp2_with (go_at_call 32; refine HS.out.mono ?_; rintro e w5 ⟨rfl, hb5⟩)
  go_ret
  exact ⟨rfl, B4.out.trans (hb5.mono B4.out.size)⟩
end Go.Proofs.YtpgkhhchpojlaaaGreatDoor
