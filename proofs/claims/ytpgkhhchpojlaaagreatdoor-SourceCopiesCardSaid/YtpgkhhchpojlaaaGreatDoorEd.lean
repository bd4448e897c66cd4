/- Rows of the call's own, rows that grow. -/
import Derived.Test.YtpgkhhchpojlaaaGreatDoorEa
import Derived.Maps.AppendAt
import Derived.Deep.AppendLies
import Derived.RegionTactic
import Derived.StillTailTactics
import Derived.OwnWalk
import Derived.Lib.SliceRun
import Derived.ArgAppend
import Derived.Laws.IdiomCopy
namespace Go.Proofs.YtpgkhhchpojlaaaGreatDoor
open Go.RowKit Go.Maps Go.WideMaps

theorem turn_set (w : World) (e o : Nat) (x : Value) : Turn (· = e) w (w.setCell ⟨e, o, none⟩ x) :=
  ⟨rfl, rfl, rfl, by simp [World.setCell], fun i _ hn => Below.heap_setCell _ _ _ _ (fun e => hn e)⟩
theorem blk_set {w : World} {e o : Nat} {t : TypeId} {cs : Array Value} (hb : Blk w e t cs) (x : Value) : Blk (w.setCell ⟨e, o, none⟩ x) e t (cs.setIfInBounds o x) := by
  unfold Blk at hb ⊢
  simp [World.setCell, Array.getElem?_modify, hb]
theorem info_parts {t : TypeId} {z : Value} {s b : Nat} (h : (Tryz.prog.info? t).map (fun i => (i.zero, i.size, i.bytes)) = some (some z, s, b)) : ∃ i, Tryz.prog.info? t = some i ∧ i.zero = some z ∧ i.size = s ∧ i.bytes = b := by
  cases hi : Tryz.prog.info? t with
  | none => rw [hi] at h; cases h
  | some i =>
    rw [hi] at h
    simp only [Option.map_some, Option.some.injEq, Prod.mk.injEq] at h
    exact ⟨i, rfl, h.1, h.2.1, h.2.2⟩
theorem cells_list {w : World} {g off : Nat} : ∀ {m : Nat}, (∀ j, j < m → ∃ u, w.cell? ⟨g, off + j, none⟩ = some u ∧ u.oneCell' = true) →
    ∃ news : List Value, news.length = m ∧ (∀ (j : Nat) u, news[j]? = some u → w.cell? ⟨g, off + j, none⟩ = some u) ∧ ∀ u ∈ news, u.oneCell' = true
  | 0, _ => ⟨[], rfl, fun j u h => (by simp at h), fun u h => by cases h⟩
  | m + 1, h => by
    obtain ⟨l, hl, hc, ho⟩ := cells_list (m := m) (fun j hj => h j (by omega))
    obtain ⟨u, hu, hu1⟩ := h m (by omega)
    refine ⟨l ++ [u], by simp [hl], fun j x hx => ?_, fun x hx => ?_⟩
    · rcases Nat.lt_or_ge j m with hj | hj
      · rw [List.getElem?_append_left (by omega)] at hx
        exact hc j x hx
      · rw [List.getElem?_append_right (by omega), hl] at hx
        have e : j = m := by
          rcases Nat.lt_or_ge m j with hlt | _
          · rw [List.getElem?_eq_none (by simp; omega)] at hx; cases hx
          · omega
        subst e
        simp at hx
        rw [← hx]; exact hu
    · rcases List.mem_append.1 hx with hx | hx
      · exact ho x hx
      · rw [List.mem_singleton.1 hx]; exact hu1
theorem own_turn {w w' : World} {b : Nat} {e : TypeId} {sz : Nat} {v : Value} {n : Nat} {xs : List Value} {S : Nat → Prop} (h : w.ownsRow b e sz v n xs) (hT : Turn S w w') (hn : ∀ g, v.ownBlock = some g → ¬ S g) : w'.ownsRow b e sz v n xs := by
  refine ⟨h.1, ?_⟩
  rcases h.2 with h2 | ⟨g, cap, cur, rfl, h3, h4, h5⟩
  · exact .inl h2
  · exact .inr ⟨g, cap, cur, rfl, h3, (show Blk w' g e cur from hT.blk (show Blk w g e cur from h4) (hn g rfl)), h5⟩
section
variable {K : Nat → Prop} {w w' : World}
theorem own_form2 {b : Nat} {t : TypeId} {sz n : Nat} {v : Value} {xs : List Value} (h : w.ownsRow b t sz v n xs) : ∃ A cap, v = .slice A n cap ∧ n ≤ cap ∧ (0 < n → ∃ g, A = some ⟨g, 0, none⟩) := by
  rcases h.2 with ⟨rfl, e⟩ | ⟨g, cap, cur, rfl, _, _, hc, _⟩
  · exact ⟨none, 0, by rw [e], by omega, fun h => absurd h (by omega)⟩
  · exact ⟨_, cap, rfl, hc, fun _ => ⟨g, rfl⟩⟩
end
theorem own_ge {b n size : Nat} {t : TypeId} {v : Value} {xs : List Value} {w : World} (h : w.ownsRow b t size v n xs) {g : Nat} (hg : v.ownBlock = some g) : b ≤ g := (h.lt g hg).1
theorem own_base {w : World} {b b' n size : Nat} {t : TypeId} {v : Value} {xs : List Value} (h : w.ownsRow b t size v n xs) (hb : b' ≤ b) : w.ownsRow b' t size v n xs := by
  refine ⟨h.1, ?_⟩
  rcases h.2 with h | ⟨g, cap, cur, hv, hg, hr⟩
  · exact .inl h
  · exact .inr ⟨g, cap, cur, hv, by omega, hr⟩
theorem off_add (g i j : Nat) : (⟨g, i, none⟩ : Addr).add j = ⟨g, i + j, none⟩ := by
  unfold Addr.add
  split
  · rename_i h
    subst h; rfl
  · rfl
theorem cells_new {w : World} {g : Nat} {t : TypeId} {cs : Array Value} (h : Blk w g t cs) : ∀ j u, cs.toList[j]? = some u → w.cell? ((⟨g, 0, none⟩ : Addr).add j) = some u := by
  intro j u hu
  rw [off_add, Nat.zero_add, h.cell j]
  simpa using hu
theorem cell_set {w : World} {g o : Nat} {t : TypeId} {cs : Array Value} (hb : Blk w g t cs) (x : Value) {o' : Nat} (h : o' ≠ o) : (w.setCell ⟨g, o, none⟩ x).cell? ⟨g, o', none⟩ = w.cell? ⟨g, o', none⟩ := by
  rw [(blk_set hb x).cell, hb.cell, Array.getElem?_setIfInBounds]
  rw [if_neg (fun e => h e.symm)]
theorem cell_set_at {w : World} {g o : Nat} {t : TypeId} {cs : Array Value} (hb : Blk w g t cs) (x : Value) (h : o < cs.size) : (w.setCell ⟨g, o, none⟩ x).cell? ⟨g, o, none⟩ = some x := by
  rw [(blk_set hb x).cell, Array.getElem?_setIfInBounds, if_pos rfl, if_pos h]
section
variable {K K' : Nat → Prop} {w w' : World}
theorem bxR.moved {g o g' o' : Nat} {b : Bx} (h : bxR K w g o b) (hc : ∀ k, k < 7 → w'.cell? ⟨g', o' + k, none⟩ = w.cell? ⟨g, o + k, none⟩) (hw : Kept K w w') (hK : ∀ i, K i → K' i) : bxR K' w' g' o' b := by
  obtain ⟨v, hv, hn⟩ := h.c6
  exact ⟨(hc 0 (by omega)).trans h.c0, (hc 1 (by omega)).trans h.c1, (hc 2 (by omega)).trans h.c2, (hc 3 (by omega)).trans h.c3, (hc 4 (by omega)).trans h.c4, (hc 5 (by omega)).trans h.c5, ⟨v, (hc 6 (by omega)).trans hv, hn.stay hw hK⟩, h.s6⟩
theorem lnR.moved {g o g' o' : Nat} {l : Ln} (h : lnR K w g o l) (hc : ∀ k, k < 5 → w'.cell? ⟨g', o' + k, none⟩ = w.cell? ⟨g, o + k, none⟩) (hw : Kept K w w') (hK : ∀ i, K i → K' i) : lnR K' w' g' o' l := by
  obtain ⟨v, hv, hn⟩ := h.c4
  exact ⟨(hc 0 (by omega)).trans h.c0, (hc 1 (by omega)).trans h.c1, (hc 2 (by omega)).trans h.c2, (hc 3 (by omega)).trans h.c3, ⟨v, (hc 4 (by omega)).trans hv, hn.stay hw hK⟩, h.s0, h.s4⟩
theorem bxR.all {g o : Nat} {b : Bx} (h : bxR K w g o b) : ∀ k, k < 7 → ∃ u, w.cell? ⟨g, o + k, none⟩ = some u ∧ u.oneCell' = true := by
  obtain ⟨v, hv, A, cap, rfl, _⟩ := h.c6
  intro k hk
  match k, hk with
  | 0, _ => exact ⟨_, h.c0, rfl⟩
  | 1, _ => exact ⟨_, h.c1, rfl⟩
  | 2, _ => exact ⟨_, h.c2, rfl⟩
  | 3, _ => exact ⟨_, h.c3, rfl⟩
  | 4, _ => exact ⟨_, h.c4, rfl⟩
  | 5, _ => exact ⟨_, h.c5, rfl⟩
  | 6, _ => exact ⟨_, hv, rfl⟩
theorem lnR.all {g o : Nat} {l : Ln} (h : lnR K w g o l) : ∀ k, k < 5 → ∃ u, w.cell? ⟨g, o + k, none⟩ = some u ∧ u.oneCell' = true := by
  obtain ⟨v, hv, A, cap, rfl, _⟩ := h.c4
  intro k hk
  match k, hk with
  | 0, _ => exact ⟨_, h.c0, rfl⟩
  | 1, _ => exact ⟨_, h.c1, rfl⟩
  | 2, _ => exact ⟨_, h.c2, rfl⟩
  | 3, _ => exact ⟨_, h.c3, rfl⟩
  | 4, _ => exact ⟨_, hv, rfl⟩
end
theorem box_info : (Tryz.prog.info? 83).map (fun i => (i.zero, i.size, i.bytes)) = some (some (.agg #[.int .i64 0, .int .i64 0, .int .i64 0, .int .i64 0, .string ⟨#[]⟩, .string ⟨#[]⟩, .slice none 0 0]), 7, 88) := by kernel_rfl
theorem line_info : (Tryz.prog.info? 31).map (fun i => (i.zero, i.size, i.bytes)) = some (some (.agg #[.string ⟨#[]⟩, .bool false, .int .i64 0, .int .i64 0, .slice none 0 0]), 5, 64) := by kernel_rfl
theorem blk_setCells {g : Nat} {t : TypeId} : ∀ (vs : List Value) (o : Nat) (w : World) (cs : Array Value), Blk w g t cs → ∃ cs', Blk (w.setCells g o vs) g t cs' ∧ cs'.size = cs.size
  | [], o, w, cs, h => ⟨cs, h, rfl⟩
  | v :: vs, o, w, cs, h => by
    obtain ⟨cs', h1, h2⟩ := blk_setCells vs (o + 1) _ _ (blk_set (o := o) h v)
    exact ⟨cs', h1, by rw [h2, Array.size_setIfInBounds]⟩
theorem turn_setCells {g : Nat} : ∀ (vs : List Value) (o : Nat) (w : World), Turn (· = g) w (w.setCells g o vs)
  | [], _, w => Turn.refl _ w
  | v :: vs, o, w => (turn_set w g o v).trans (turn_setCells vs (o + 1) _) (fun _ _ h => h)
theorem run_append_zero {P : Program} (w : World) (t ty e : TypeId) (i : TypeInfo) (ht : P.underlying t = some (.slice e)) (hi : P.info? e = some i) (A : Option Addr) (n c : Nat) (hn : n ≤ c) (A2 : Option Addr) (c2 : Nat) :
    (Builtin.append_ #[t, t] ty #[.slice A n c, .slice A2 0 c2]).run P w = .ok (.slice A n c) w := by
  cases A <;> cases A2 <;> simp [Builtin.append_, run_underlying ht, sizeOf, typeInfo, hi, Builtin.lenOf, Builtin.firstCells, loadCells, loadCellsFrom, storeCells, hn]
section
variable {K K' : Nat → Prop} {w w' : World}
theorem Turn.of_row {row : Option Nat} (h : w.grownBy w' row) : Turn (fun i => row = some i) w w' := ⟨h.os, h.tape, h.output, h.size, fun i hi hn => h.block i hi (fun e => hn e.symm)⟩
theorem LnsAt.on {v : Value} {ls : List Ln} (h : LnsAt K w v ls) (hb : Below w.heap.size w w') : LnsAt K w' v ls := h.stay (Kept.of_all hb) (fun _ h => h)
end
/-- A row that grows, and what its elements hold in new blocks. -/
def RowGo {α : Type} (sz : Nat) (P : (Nat → Prop) → World → List Value → α → Prop) (b : Nat) (t : TypeId) (w : World) (v : Value) (l : List α) (css : List (List Value)) : Prop :=
  css.length = l.length ∧ w.ownsRow b t sz v l.length css.flatten ∧ ∀ (i : Nat) x, l[i]? = some x → ∃ cs, css[i]? = some cs ∧ cs.length = sz ∧ P (fun k => b ≤ k ∧ k < w.heap.size ∧ v.ownBlock ≠ some k) w cs x
section
variable {α : Type} {sz b : Nat} {P : (Nat → Prop) → World → List Value → α → Prop} {t : TypeId} {w w1 w2 : World} {v v1 : Value} {l : List α} {css : List (List Value)}
theorem flat_at : ∀ {css : List (List Value)} {i j : Nat} {cs : List Value}, (∀ c ∈ css, c.length = sz) → css[i]? = some cs → j < sz → css.flatten[i * sz + j]? = cs[j]?
  | [], i, j, cs, _, h, _ => by simp at h
  | c :: css, 0, j, cs, hl, h, hj => by
    have h : c = cs := by simpa using h
    subst h
    have := hl c (List.mem_cons_self ..)
    rw [Nat.zero_mul, Nat.zero_add, List.flatten_cons, List.getElem?_append_left (by omega)]
  | c :: css, i + 1, j, cs, hl, h, hj => by
    have hc := hl c (List.mem_cons_self ..)
    have := flat_at (css := css) (i := i) (j := j) (cs := cs) (fun c hc => hl c (List.mem_cons_of_mem _ hc)) (by simpa using h) hj
    rw [List.flatten_cons, show (i + 1) * sz + j = c.length + (i * sz + j) by rw [hc, Nat.add_mul]; omega, List.getElem?_append_right (Nat.le_add_right _ _), Nat.add_sub_cancel_left, this]
theorem RowGo.nil (w : World) (b : Nat) (t : TypeId) : RowGo sz P b t w (.slice none 0 0) ([] : List α) [] := ⟨rfl, World.ownsRow_nil _ _ _ _, fun i x h => by simp at h⟩
theorem RowGo.below (hP : ∀ {K K' : Nat → Prop} {w w' : World} {cs : List Value} {x : α}, P K w cs x → Kept K w w' → (∀ i, K i → K' i) → P K' w' cs x) (h : RowGo sz P b t w v l css) (hb : Below w.heap.size w w1) : RowGo sz P b t w1 v l css := by
  refine ⟨h.1, own_turn (S := fun _ => False) h.2.1 (Turn.of_below hb) (fun _ _ => id), fun i x hx => ?_⟩
  obtain ⟨cs, h1, h2, h3⟩ := h.2.2 i x hx
  exact ⟨cs, h1, h2, hP h3 (Kept.of_all hb) (fun k hk => ⟨hk.1, Nat.lt_of_lt_of_le hk.2.1 hb.size, hk.2.2⟩)⟩
theorem RowGo.step (hP : ∀ {K K' : Nat → Prop} {w w' : World} {cs : List Value} {x : α}, P K w cs x → Kept K w w' → (∀ i, K i → K' i) → P K' w' cs x) (h : RowGo sz P b t w v l css) {x : α} {cs : List Value} (hg : w.grownBy w2 v.ownBlock) (hl : cs.length = sz)
    (hx : P (fun k => b ≤ k ∧ k < w.heap.size ∧ v.ownBlock ≠ some k) w cs x) (hown : w2.ownsRow b t sz v1 (l.length + 1) (css.flatten ++ cs)) (hat : v1.ownBlock = v.ownBlock ∨ v1.ownBlock = some w.heap.size) : RowGo sz P b t w2 v1 (l ++ [x]) (css ++ [cs]) := by
  have hT := Turn.of_row hg
  have hk : ∀ {y : α} {c : List Value}, P (fun k => b ≤ k ∧ k < w.heap.size ∧ v.ownBlock ≠ some k) w c y → P (fun k => b ≤ k ∧ k < w2.heap.size ∧ v1.ownBlock ≠ some k) w2 c y := fun hp =>
    hP hp (Kept.of_turn hT (fun i hi e => hi.2.2 e)) (fun i hi => ⟨hi.1, Nat.lt_of_lt_of_le hi.2.1 hT.size, fun e => by
      rcases hat with h2 | h2
      · rw [h2] at e; exact hi.2.2 e
      · rw [h2] at e
        injection e with e
        have := hi.2.1
        omega⟩)
  refine ⟨by rw [List.length_append, List.length_append, h.1]; rfl, by rw [List.length_append, List.flatten_append]; simpa using hown, fun i y hy => ?_⟩
  by_cases hi : i < l.length
  · rw [List.getElem?_append_left hi] at hy
    obtain ⟨c, h1, h2, h3⟩ := h.2.2 i y hy
    exact ⟨c, by rw [List.getElem?_append_left (by rw [h.1]; exact hi)]; exact h1, h2, hk h3⟩
  · rw [List.getElem?_append_right (by omega)] at hy
    have hi0 : i - l.length = 0 := by
      have := (List.getElem?_eq_some_iff.1 hy).1
      simp at this
      omega
    rw [hi0] at hy
    have : x = y := by simpa using hy
    subst this
    exact ⟨cs, by rw [List.getElem?_append_right (by rw [h.1]; omega), h.1, hi0]; rfl, hl, hk hx⟩
/-- What has grown reads as a row. -/
theorem RowGo.row {R : (Nat → Prop) → World → Nat → Nat → α → Prop} (hR : ∀ {K : Nat → Prop} {w : World} {g o : Nat} {cs : List Value} {x : α}, P K w cs x → (∀ j, j < sz → w.cell? ⟨g, o + j, none⟩ = cs[j]?) → R K w g o x)
    (hRK : ∀ {K K' : Nat → Prop} {w : World} {g o : Nat} {x : α}, R K w g o x → (∀ i, K i → K' i) → R K' w g o x) (h : RowGo sz P b t w v l css) : RowAt sz (R (fun k => b ≤ k ∧ k < w.heap.size)) (fun k => b ≤ k ∧ k < w.heap.size) w v l := by
  have hall : ∀ c ∈ css, c.length = sz := fun c hc => by
    obtain ⟨i, hi⟩ := List.getElem?_of_mem hc
    have hil : i < l.length := by
      have := (List.getElem?_eq_some_iff.1 hi).1
      rw [h.1] at this
      exact this
    obtain ⟨cs, h1, h2, _⟩ := h.2.2 i _ (List.getElem?_eq_getElem hil)
    rw [hi] at h1
    injection h1 with h1
    rw [h1]; exact h2
  rcases h.2.1.2 with ⟨rfl, e⟩ | ⟨g, cap, cur, rfl, hbg, hg, hn, hm, _⟩
  · exact ⟨none, 0, by rw [e], by omega, Nat.zero_le _, fun h0 => by omega⟩
  · refine ⟨_, cap, rfl, hn, hm, fun _ => ⟨g, 0, rfl, ⟨hbg, (show Blk w g t cur from hg).lt⟩, fun i x hx => ?_⟩⟩
    obtain ⟨cs, h1, h2, h3⟩ := h.2.2 i x hx
    have hil := (List.getElem?_eq_some_iff.1 hx).1
    refine hRK (hR (g := g) (o := 0 + i * sz) h3 (fun j hj => ?_)) (fun k hk => ⟨hk.1, hk.2.1⟩)
    rw [Nat.zero_add, h.2.1.cellAt _ (by
      have : (i + 1) * sz ≤ l.length * sz := Nat.mul_le_mul_right _ hil
      rw [Nat.add_mul] at this
      omega)]
    exact flat_at hall h1 hj
end
/-- A box's cells. -/
def bxP (K : Nat → Prop) (w : World) (cs : List Value) (x : Bx) : Prop := ∃ v, cs = [.int .i64 x.kind, .int .i64 x.width, .int .i64 x.font, .int .i64 x.size, .string x.name, .string x.colour, v] ∧ NsAt K w v x.n ∧ x.n.length * 8 ≤ 140737488355328
def lnP (K : Nat → Prop) (w : World) (cs : List Value) (x : Ln) : Prop := ∃ v, cs = [.string x.text, .bool x.made, .int .i64 x.up, .int .i64 x.down, v] ∧ BxsAt K w v x.boxes ∧ x.text.size ≤ 140737488351232 ∧ x.boxes.length ≤ 1599289640401
theorem bxP.stay {K K' : Nat → Prop} {w w' : World} {cs : List Value} {x : Bx} (h : bxP K w cs x) (hw : Kept K w w') (hK : ∀ i, K i → K' i) : bxP K' w' cs x := by
  obtain ⟨v, e, h1, h2⟩ := h
  exact ⟨v, e, h1.stay hw hK, h2⟩
theorem lnP.stay {K K' : Nat → Prop} {w w' : World} {cs : List Value} {x : Ln} (h : lnP K w cs x) (hw : Kept K w w') (hK : ∀ i, K i → K' i) : lnP K' w' cs x := by
  obtain ⟨v, e, h1, h2⟩ := h
  exact ⟨v, e, h1.stay hw hK, h2⟩
theorem bxP.r {K : Nat → Prop} {w : World} {g o : Nat} {cs : List Value} {x : Bx} (h : bxP K w cs x) (hc : ∀ j, j < 7 → w.cell? ⟨g, o + j, none⟩ = cs[j]?) : bxR K w g o x := by
  obtain ⟨v, rfl, h1, h2⟩ := h
  exact ⟨hc 0 (by omega), hc 1 (by omega), hc 2 (by omega), hc 3 (by omega), hc 4 (by omega), hc 5 (by omega), ⟨v, hc 6 (by omega), h1⟩, h2⟩
theorem lnP.r {K : Nat → Prop} {w : World} {g o : Nat} {cs : List Value} {x : Ln} (h : lnP K w cs x) (hc : ∀ j, j < 5 → w.cell? ⟨g, o + j, none⟩ = cs[j]?) : lnR K w g o x := by
  obtain ⟨v, rfl, h1, h2, h3⟩ := h
  exact ⟨hc 0 (by omega), hc 1 (by omega), hc 2 (by omega), hc 3 (by omega), ⟨v, hc 4 (by omega), h1⟩, h2, h3⟩
theorem bxR.on {K K' : Nat → Prop} {w : World} {g o : Nat} {x : Bx} (h : bxR K w g o x) (hK : ∀ i, K i → K' i) : bxR K' w g o x := h.moved (fun _ _ => rfl) (fun _ _ _ => rfl) hK
theorem lnR.on {K K' : Nat → Prop} {w : World} {g o : Nat} {x : Ln} (h : lnR K w g o x) (hK : ∀ i, K i → K' i) : lnR K' w g o x := h.moved (fun _ _ => rfl) (fun _ _ _ => rfl) hK
theorem ints_info : (Tryz.prog.info? 3).map (fun i => (i.zero, i.size, i.bytes)) = some (some (.int .i64 0), 1, 8) := by kernel_rfl
/-- append, by what it comes to. -/
theorem wpList_append_run {Pr : Program} (w : World) {ops : Array Oper} {rest : List Oper} {o : Oper} {a : Act} {Q : Exit → Act → World → Prop} (hgd : o.guard = none) (s x : Operand) (t : TypeId)
    (ho : o.op = .call { callee := .builtin .append, args := #[s, x], argTypes := #[t, t] }) (vs vx : Value) (hs : a.eval s = vs) (hx : a.eval x = vx) (v' : Value) (w' : World)
    (hr : (Builtin.append_ #[t, t] o.type #[vs, vx]).run Pr w = .ok v' w') (h : wpList Pr ops Q rest (a.put o.dst v') w') : wpList Pr ops Q (o :: rest) a w := by
  refine wpList_plain hgd fun K hK => ?_
  unfold Oper.wp execOp
  simp only [ho, resolve, invoke, builtin, Sem.run_bind, Sem.run_pure, Result.andThen_ok, List.map_toArray, List.map_cons, List.map_nil, hs, hx, hr]
  exact hK _ _ h
theorem RowAt.back {α : Type} {sz : Nat} {R : World → Nat → Nat → α → Prop} {K : Nat → Prop} {w : World} {v : Value} {l : List α} (h : RowAt sz R K w v l) : ∃ A cap, v = .slice A l.length cap ∧ l.length ≤ cap ∧ cap ≤ maxLen := by
  obtain ⟨A, cap, e, h1, h2, _⟩ := h
  exact ⟨A, cap, e, h1, h2⟩
end Go.Proofs.YtpgkhhchpojlaaaGreatDoor
