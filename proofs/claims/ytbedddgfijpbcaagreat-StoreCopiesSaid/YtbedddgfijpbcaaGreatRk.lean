/- Rows that grow, with what their elements hold. -/
import Derived.Test.YtbedddgfijpbcaaGreatRh
namespace Go.Proofs.YtbedddgfijpbcaaGreat
open Go.RowKit Go.Maps Go.WideMaps

/-- A row that grows, and what its elements hold in new blocks. -/
def RowGo {α : Type} (sz : Nat) (P : (Nat → Prop) → World → List Value → α → Prop) (b : Nat) (t : TypeId) (w : World) (v : Value) (l : List α) (css : List (List Value)) : Prop :=
  css.length = l.length ∧ w.ownsRow b t sz v l.length css.flatten ∧ ∀ (i : Nat) x, l[i]? = some x → ∃ cs, css[i]? = some cs ∧ cs.length = sz ∧ P (fun k => b ≤ k ∧ k < w.heap.size ∧ v.ownBlock ≠ some k) w cs x
section
variable {α : Type} {sz b : Nat} {P : (Nat → Prop) → World → List Value → α → Prop} {t : TypeId} {w w1 w2 : World} {v v1 : Value} {l : List α} {css : List (List Value)}
theorem flat_at : ∀ {css : List (List Value)} {i j : Nat} {cs : List Value}, (∀ c ∈ css, c.length = sz) → css[i]? = some cs → j < sz → css.flatten[i * sz + j]? = cs[j]?
  | [], i, j, cs, _, h, _ => by simp at h
  | c :: css, 0, j, cs, hl, h, hj => by
    have h : c = cs := by simpa using h
    subst h
    have := hl c (List.mem_cons_self ..)
    rw [Nat.zero_mul, Nat.zero_add, List.flatten_cons, List.getElem?_append_left (by omega)]
  | c :: css, i + 1, j, cs, hl, h, hj => by
    have hc := hl c (List.mem_cons_self ..)
    have := flat_at (css := css) (i := i) (j := j) (cs := cs) (fun c hc => hl c (List.mem_cons_of_mem _ hc)) (by simpa using h) hj
    rw [List.flatten_cons, show (i + 1) * sz + j = c.length + (i * sz + j) by rw [hc, Nat.add_mul]; omega, List.getElem?_append_right (Nat.le_add_right _ _), Nat.add_sub_cancel_left, this]
theorem RowGo.nil (w : World) (b : Nat) (t : TypeId) : RowGo sz P b t w (.slice none 0 0) ([] : List α) [] := ⟨rfl, World.ownsRow_nil _ _ _ _, fun i x h => by simp at h⟩
theorem RowGo.below (hP : ∀ {K K' : Nat → Prop} {w w' : World} {cs : List Value} {x : α}, P K w cs x → Kept K w w' → (∀ i, K i → K' i) → P K' w' cs x) (h : RowGo sz P b t w v l css) (hb : Below w.heap.size w w1) : RowGo sz P b t w1 v l css := by
  refine ⟨h.1, own_turn (S := fun _ => False) h.2.1 (Turn.of_below hb) (fun _ _ => id), fun i x hx => ?_⟩
  obtain ⟨cs, h1, h2, h3⟩ := h.2.2 i x hx
  exact ⟨cs, h1, h2, hP h3 (Kept.of_all hb) (fun k hk => ⟨hk.1, Nat.lt_of_lt_of_le hk.2.1 hb.size, hk.2.2⟩)⟩
theorem RowGo.step (hP : ∀ {K K' : Nat → Prop} {w w' : World} {cs : List Value} {x : α}, P K w cs x → Kept K w w' → (∀ i, K i → K' i) → P K' w' cs x) (h : RowGo sz P b t w v l css) {x : α} {cs : List Value} (hg : w.grownBy w2 v.ownBlock) (hl : cs.length = sz)
    (hx : P (fun k => b ≤ k ∧ k < w.heap.size ∧ v.ownBlock ≠ some k) w cs x) (hown : w2.ownsRow b t sz v1 (l.length + 1) (css.flatten ++ cs)) (hat : v1.ownBlock = v.ownBlock ∨ v1.ownBlock = some w.heap.size) : RowGo sz P b t w2 v1 (l ++ [x]) (css ++ [cs]) := by
  have hT := Turn.of_row hg
  have hk : ∀ {y : α} {c : List Value}, P (fun k => b ≤ k ∧ k < w.heap.size ∧ v.ownBlock ≠ some k) w c y → P (fun k => b ≤ k ∧ k < w2.heap.size ∧ v1.ownBlock ≠ some k) w2 c y := fun hp =>
    hP hp (Kept.of_turn hT (fun i hi e => hi.2.2 e)) (fun i hi => ⟨hi.1, Nat.lt_of_lt_of_le hi.2.1 hT.size, fun e => by
      rcases hat with h2 | h2
      · rw [h2] at e; exact hi.2.2 e
      · rw [h2] at e
        injection e with e
        have := hi.2.1
        omega⟩)
  refine ⟨by rw [List.length_append, List.length_append, h.1]; rfl, by rw [List.length_append, List.flatten_append]; simpa using hown, fun i y hy => ?_⟩
  by_cases hi : i < l.length
  · rw [List.getElem?_append_left hi] at hy
    obtain ⟨c, h1, h2, h3⟩ := h.2.2 i y hy
    exact ⟨c, by rw [List.getElem?_append_left (by rw [h.1]; exact hi)]; exact h1, h2, hk h3⟩
  · rw [List.getElem?_append_right (by omega)] at hy
    have hi0 : i - l.length = 0 := by
      have := (List.getElem?_eq_some_iff.1 hy).1
      simp at this
      omega
    rw [hi0] at hy
    have : x = y := by simpa using hy
    subst this
    exact ⟨cs, by rw [List.getElem?_append_right (by rw [h.1]; omega), h.1, hi0]; rfl, hl, hk hx⟩
/-- What has grown reads as a row. -/
theorem RowGo.row {R : (Nat → Prop) → World → Nat → Nat → α → Prop} (hR : ∀ {K : Nat → Prop} {w : World} {g o : Nat} {cs : List Value} {x : α}, P K w cs x → (∀ j, j < sz → w.cell? ⟨g, o + j, none⟩ = cs[j]?) → R K w g o x)
    (hRK : ∀ {K K' : Nat → Prop} {w : World} {g o : Nat} {x : α}, R K w g o x → (∀ i, K i → K' i) → R K' w g o x) (h : RowGo sz P b t w v l css) : RowAt sz (R (fun k => b ≤ k ∧ k < w.heap.size)) (fun k => b ≤ k ∧ k < w.heap.size) w v l := by
  have hall : ∀ c ∈ css, c.length = sz := fun c hc => by
    obtain ⟨i, hi⟩ := List.getElem?_of_mem hc
    have hil : i < l.length := by
      have := (List.getElem?_eq_some_iff.1 hi).1
      rw [h.1] at this
      exact this
    obtain ⟨cs, h1, h2, _⟩ := h.2.2 i _ (List.getElem?_eq_getElem hil)
    rw [hi] at h1
    injection h1 with h1
    rw [h1]; exact h2
  rcases h.2.1.2 with ⟨rfl, e⟩ | ⟨g, cap, cur, rfl, hbg, hg, hn, hm, _⟩
  · exact ⟨none, 0, by rw [e], by omega, Nat.zero_le _, fun h0 => by omega⟩
  · refine ⟨_, cap, rfl, hn, hm, fun _ => ⟨g, 0, rfl, ⟨hbg, (show Blk w g t cur from hg).lt⟩, fun i x hx => ?_⟩⟩
    obtain ⟨cs, h1, h2, h3⟩ := h.2.2 i x hx
    have hil := (List.getElem?_eq_some_iff.1 hx).1
    refine hRK (hR (g := g) (o := 0 + i * sz) h3 (fun j hj => ?_)) (fun k hk => ⟨hk.1, hk.2.1⟩)
    rw [Nat.zero_add, h.2.1.cellAt _ (by
      have : (i + 1) * sz ≤ l.length * sz := Nat.mul_le_mul_right _ hil
      rw [Nat.add_mul] at this
      omega)]
    exact flat_at hall h1 hj
end
/-- A box's cells. -/
def bxP (K : Nat → Prop) (w : World) (cs : List Value) (x : Bx) : Prop := ∃ v, cs = [.int .i64 x.kind, .int .i64 x.width, .int .i64 x.font, .int .i64 x.size, .string x.name, .string x.colour, v] ∧ NsAt K w v x.n ∧ x.n.length * 8 ≤ 140737488355328
def lnP (K : Nat → Prop) (w : World) (cs : List Value) (x : Ln) : Prop := ∃ v, cs = [.string x.text, .bool x.made, .int .i64 x.up, .int .i64 x.down, v] ∧ BxsAt K w v x.boxes ∧ x.text.size ≤ 140737488351232 ∧ x.boxes.length ≤ 1599289640401
theorem bxP.stay {K K' : Nat → Prop} {w w' : World} {cs : List Value} {x : Bx} (h : bxP K w cs x) (hw : Kept K w w') (hK : ∀ i, K i → K' i) : bxP K' w' cs x := by
  obtain ⟨v, e, h1, h2⟩ := h
  exact ⟨v, e, h1.stay hw hK, h2⟩
theorem lnP.stay {K K' : Nat → Prop} {w w' : World} {cs : List Value} {x : Ln} (h : lnP K w cs x) (hw : Kept K w w') (hK : ∀ i, K i → K' i) : lnP K' w' cs x := by
  obtain ⟨v, e, h1, h2⟩ := h
  exact ⟨v, e, h1.stay hw hK, h2⟩
theorem bxP.r {K : Nat → Prop} {w : World} {g o : Nat} {cs : List Value} {x : Bx} (h : bxP K w cs x) (hc : ∀ j, j < 7 → w.cell? ⟨g, o + j, none⟩ = cs[j]?) : bxR K w g o x := by
  obtain ⟨v, rfl, h1, h2⟩ := h
  exact ⟨hc 0 (by omega), hc 1 (by omega), hc 2 (by omega), hc 3 (by omega), hc 4 (by omega), hc 5 (by omega), ⟨v, hc 6 (by omega), h1⟩, h2⟩
theorem lnP.r {K : Nat → Prop} {w : World} {g o : Nat} {cs : List Value} {x : Ln} (h : lnP K w cs x) (hc : ∀ j, j < 5 → w.cell? ⟨g, o + j, none⟩ = cs[j]?) : lnR K w g o x := by
  obtain ⟨v, rfl, h1, h2, h3⟩ := h
  exact ⟨hc 0 (by omega), hc 1 (by omega), hc 2 (by omega), hc 3 (by omega), ⟨v, hc 4 (by omega), h1⟩, h2, h3⟩
theorem bxR.on {K K' : Nat → Prop} {w : World} {g o : Nat} {x : Bx} (h : bxR K w g o x) (hK : ∀ i, K i → K' i) : bxR K' w g o x := h.moved (fun _ _ => rfl) (fun _ _ _ => rfl) hK
theorem lnR.on {K K' : Nat → Prop} {w : World} {g o : Nat} {x : Ln} (h : lnR K w g o x) (hK : ∀ i, K i → K' i) : lnR K' w g o x := h.moved (fun _ _ => rfl) (fun _ _ _ => rfl) hK
end Go.Proofs.YtbedddgfijpbcaaGreat
