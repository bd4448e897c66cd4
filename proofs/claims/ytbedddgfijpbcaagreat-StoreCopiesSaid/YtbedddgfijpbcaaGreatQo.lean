/- Walks: slices.Clone, of numbers, boxes, lines. -/
import Derived.Test.YtbedddgfijpbcaaGreatQn
import Derived.Maps.AppendAt
import Derived.Deep.AppendLies
import Derived.RegionTactic
import Derived.OwnWalk
import Derived.Lib.SliceRun
namespace Go.Proofs.YtbedddgfijpbcaaGreat
open Go.RowKit Go.Maps Go.WideMaps

theorem info_parts {t : TypeId} {z : Value} {s b : Nat} (h : (Tryz.prog.info? t).map (fun i => (i.zero, i.size, i.bytes)) = some (some z, s, b)) : ∃ i, Tryz.prog.info? t = some i ∧ i.zero = some z ∧ i.size = s ∧ i.bytes = b := by
  cases hi : Tryz.prog.info? t with
  | none => rw [hi] at h; cases h
  | some i =>
    rw [hi] at h
    simp only [Option.map_some, Option.some.injEq, Prod.mk.injEq] at h
    exact ⟨i, rfl, h.1, h.2.1, h.2.2⟩
theorem cells_list {w : World} {g off : Nat} : ∀ {m : Nat}, (∀ j, j < m → ∃ u, w.cell? ⟨g, off + j, none⟩ = some u ∧ u.oneCell' = true) →
    ∃ news : List Value, news.length = m ∧ (∀ (j : Nat) u, news[j]? = some u → w.cell? ⟨g, off + j, none⟩ = some u) ∧ ∀ u ∈ news, u.oneCell' = true
  | 0, _ => ⟨[], rfl, fun j u h => (by simp at h), fun u h => by cases h⟩
  | m + 1, h => by
    obtain ⟨l, hl, hc, ho⟩ := cells_list (m := m) (fun j hj => h j (by omega))
    obtain ⟨u, hu, hu1⟩ := h m (by omega)
    refine ⟨l ++ [u], by simp [hl], fun j x hx => ?_, fun x hx => ?_⟩
    · rcases Nat.lt_or_ge j m with hj | hj
      · rw [List.getElem?_append_left (by omega)] at hx
        exact hc j x hx
      · rw [List.getElem?_append_right (by omega), hl] at hx
        have e : j = m := by
          rcases Nat.lt_or_ge m j with hlt | _
          · rw [List.getElem?_eq_none (by simp; omega)] at hx; cases hx
          · omega
        subst e
        simp at hx
        rw [← hx]; exact hu
    · rcases List.mem_append.1 hx with hx | hx
      · exact ho x hx
      · rw [List.mem_singleton.1 hx]; exact hu1
/-- What a clone is. -/
def CloneAt {α : Type} (sz : Nat) (R : World → Nat → Nat → α → Prop) (b : Nat) (t : TypeId) (w : World) (v : Value) (l : List α) : Prop :=
  ∃ A cap, v = .slice A l.length cap ∧ l.length ≤ cap ∧ cap ≤ maxLen ∧ (0 < cap → ∃ g cs, A = some ⟨g, 0, none⟩ ∧ b ≤ g ∧ Blk w g t cs ∧ cs.size = cap * sz ∧ ∀ (i : Nat) x, l[i]? = some x → R w g (i * sz) x)
theorem CloneAt.of_own {α : Type} {sz : Nat} {R : World → Nat → Nat → α → Prop} {b : Nat} {t : TypeId} {w : World} {v : Value} {l : List α} {news : List Value} (h : w.ownsRow b t sz v l.length news) (hR : ∀ g, (∀ j, j < l.length * sz → w.cell? ⟨g, j, none⟩ = news[j]?) → ∀ (i : Nat) x, l[i]? = some x → R w g (i * sz) x) : CloneAt sz R b t w v l := by
  rcases h.2 with ⟨rfl, h0⟩ | ⟨g, cap, cur, rfl, hb, hg, hn, hm, hs, _⟩
  · exact ⟨none, 0, by rw [h0], by omega, Nat.zero_le _, fun h => absurd h (Nat.lt_irrefl 0)⟩
  · exact ⟨_, cap, rfl, hn, hm, fun _ => ⟨g, cur, rfl, hb, hg, hs, hR g (fun j hj => h.cellAt j hj)⟩⟩
/-- slices.Clone, of numbers. -/
theorem cCloneN (K : Nat → Prop) (v : Value) (l : List Int) (w : World) (h : NsAt K w v l) (hz : l.length * 8 ≤ 140737488355328) :
    Calls Tryz.prog 83 #[v] w fun e w' => ∃ v', e = .returned v' ∧ NsAt (fun i => w.heap.size ≤ i ∧ i < w'.heap.size) w' v' l ∧ (∃ A n c, v' = .slice A n c) ∧ Below w.heap.size w w' := by
  obtain ⟨A, cap, rfl, h1, h2, h3⟩ := h
  cases A with
  | none =>
    have h0 : l.length = 0 := by
      rcases Nat.eq_zero_or_pos l.length with h | h
      · exact h
      · obtain ⟨g, off, e, _⟩ := h3 h
        cases e
    have : l = [] := List.length_eq_zero_iff.1 h0
    subst this
    exact (Tryz.slices_Clone_int_nil _ cap w).mono fun e w' ⟨he, hw⟩ => ⟨_, he, RowAt.nil, ⟨_, _, _, rfl⟩, by rw [hw]; exact Below.refl _ _⟩
  | some a =>
    by_cases h0 : l.length = 0
    · have : l = [] := List.length_eq_zero_iff.1 h0
      subst this
      refine (Tryz.slices_Clone_int_zero a cap w).mono fun e w' ⟨v', he, hr, _, hb⟩ => ⟨v', he, ?_, ?_, hb⟩
      · rcases hr.2 with ⟨rfl, _⟩ | ⟨g, cap', cur, rfl, _, _, _, hm, _⟩
        · exact RowAt.nil
        · exact ⟨_, cap', rfl, Nat.zero_le _, hm, fun h => absurd h (Nat.lt_irrefl 0)⟩
      · rcases hr.2 with ⟨rfl, _⟩ | ⟨g, cap', cur, rfl, _⟩
        · exact ⟨_, _, _, rfl⟩
        · exact ⟨_, _, _, rfl⟩
    · obtain ⟨g, off, e, hK, hr⟩ := h3 (by omega)
      injection e with e
      subst e
      refine (Tryz.slices_Clone_int g off l.length cap l w (Nat.le_refl _) hz (fun j hj => ?_)).mono fun e w' ⟨v', he, hrow, _, hb⟩ => ⟨v', he, ?_, ?_, hb⟩
      · have := hr j l[j] (List.getElem?_eq_getElem hj)
        unfold numR at this
        rw [Nat.mul_one] at this
        rw [this, List.getD_eq_getElem?_getD, List.getElem?_eq_getElem hj]
        rfl
      · rw [List.take_of_length_le (Nat.le_refl _)] at hrow
        rcases hrow.2 with ⟨rfl, h0'⟩ | ⟨g', cap', cur, rfl, hbg, hg, hn, hm, _⟩
        · exact absurd h0' h0
        · refine ⟨_, cap', rfl, hn, hm, fun _ => ⟨g', 0, rfl, ⟨hbg, ?_⟩, fun i x hx => ?_⟩⟩
          · rcases Nat.lt_or_ge g' w'.heap.size with h | h
            · exact h
            · rw [Array.getElem?_eq_none h] at hg; cases hg
          · have hi := (List.getElem?_eq_some_iff.1 hx).1
            unfold numR
            rw [Nat.zero_add, Nat.mul_one, hrow.cellAt i (by omega), List.getElem?_map, hx]
            rfl
      · rcases hrow.2 with ⟨rfl, _⟩ | ⟨g', cap', cur, rfl, _⟩
        · exact ⟨_, _, _, rfl⟩
        · exact ⟨_, _, _, rfl⟩
section
variable {K K' : Nat → Prop} {w w' : World}
theorem bxR.moved {g o g' o' : Nat} {b : Bx} (h : bxR K w g o b) (hc : ∀ k, k < 7 → w'.cell? ⟨g', o' + k, none⟩ = w.cell? ⟨g, o + k, none⟩) (hw : Kept K w w') (hK : ∀ i, K i → K' i) : bxR K' w' g' o' b := by
  obtain ⟨v, hv, hn⟩ := h.c6
  exact ⟨(hc 0 (by omega)).trans h.c0, (hc 1 (by omega)).trans h.c1, (hc 2 (by omega)).trans h.c2, (hc 3 (by omega)).trans h.c3, (hc 4 (by omega)).trans h.c4, (hc 5 (by omega)).trans h.c5, ⟨v, (hc 6 (by omega)).trans hv, hn.stay hw hK⟩, h.s6⟩
theorem lnR.moved {g o g' o' : Nat} {l : Ln} (h : lnR K w g o l) (hc : ∀ k, k < 5 → w'.cell? ⟨g', o' + k, none⟩ = w.cell? ⟨g, o + k, none⟩) (hw : Kept K w w') (hK : ∀ i, K i → K' i) : lnR K' w' g' o' l := by
  obtain ⟨v, hv, hn⟩ := h.c4
  exact ⟨(hc 0 (by omega)).trans h.c0, (hc 1 (by omega)).trans h.c1, (hc 2 (by omega)).trans h.c2, (hc 3 (by omega)).trans h.c3, ⟨v, (hc 4 (by omega)).trans hv, hn.stay hw hK⟩, h.s0, h.s4⟩
theorem bxR.all {g o : Nat} {b : Bx} (h : bxR K w g o b) : ∀ k, k < 7 → ∃ u, w.cell? ⟨g, o + k, none⟩ = some u ∧ u.oneCell' = true := by
  obtain ⟨v, hv, A, cap, rfl, _⟩ := h.c6
  intro k hk
  match k, hk with
  | 0, _ => exact ⟨_, h.c0, rfl⟩
  | 1, _ => exact ⟨_, h.c1, rfl⟩
  | 2, _ => exact ⟨_, h.c2, rfl⟩
  | 3, _ => exact ⟨_, h.c3, rfl⟩
  | 4, _ => exact ⟨_, h.c4, rfl⟩
  | 5, _ => exact ⟨_, h.c5, rfl⟩
  | 6, _ => exact ⟨_, hv, rfl⟩
theorem lnR.all {g o : Nat} {l : Ln} (h : lnR K w g o l) : ∀ k, k < 5 → ∃ u, w.cell? ⟨g, o + k, none⟩ = some u ∧ u.oneCell' = true := by
  obtain ⟨v, hv, A, cap, rfl, _⟩ := h.c4
  intro k hk
  match k, hk with
  | 0, _ => exact ⟨_, h.c0, rfl⟩
  | 1, _ => exact ⟨_, h.c1, rfl⟩
  | 2, _ => exact ⟨_, h.c2, rfl⟩
  | 3, _ => exact ⟨_, h.c3, rfl⟩
  | 4, _ => exact ⟨_, hv, rfl⟩
end
theorem box_info : (Tryz.prog.info? 97).map (fun i => (i.zero, i.size, i.bytes)) = some (some (.agg #[.int .i64 0, .int .i64 0, .int .i64 0, .int .i64 0, .string ⟨#[]⟩, .string ⟨#[]⟩, .slice none 0 0]), 7, 88) := by kernel_rfl
theorem line_info : (Tryz.prog.info? 39).map (fun i => (i.zero, i.size, i.bytes)) = some (some (.agg #[.string ⟨#[]⟩, .bool false, .int .i64 0, .int .i64 0, .slice none 0 0]), 5, 64) := by kernel_rfl
set_option maxRecDepth 100000 in
/-- slices.Clone, of boxes. -/
theorem cCloneB (K : Nat → Prop) (v : Value) (l : List Bx) (w : World) (h : BxsAt K w v l) (hz : l.length ≤ 1599289640401) :
    Calls Tryz.prog 82 #[v] w fun e w' => ∃ v', e = .returned v' ∧ CloneAt 7 (bxR K) w.heap.size 97 w' v' l ∧ Below w.heap.size w w' := by
  obtain ⟨A, cap, rfl, h1, h2, h3⟩ := h
  obtain ⟨i0, hi0, hz0, hz1, hz2⟩ := info_parts box_info
  cases A with
  | none =>
    have h0 : l.length = 0 := by
      rcases Nat.eq_zero_or_pos l.length with h | h
      · exact h
      · obtain ⟨g, off, e, _⟩ := h3 h
        cases e
    have : l = [] := List.length_eq_zero_iff.1 h0
    subst this
    clear h3
    show Calls Tryz.prog 82 #[.slice none 0 cap] w _
    have qn := fun (w : World) => Lib.run_eql_slice_nil (P := Tryz.prog) w 37 _ none 0 cap 0 0 Tryz.underlying37
    go_enter Tryz.func82, Tryz.ntmps82
    go_wp2_with fail
    go_ret
    exact ⟨_, rfl, ⟨none, 0, rfl, Nat.le_refl _, Nat.zero_le _, fun h => absurd h (Nat.lt_irrefl 0)⟩, Below.refl _ _⟩
  | some a =>
    have ho1 := Lib.hid (World.ownsRow_lit (e := 97) (size := 7) w #[] 0 (Nat.le_refl _) (by unfold maxLen; omega) rfl)
    have hB1 := Lib.hid ((Below.refl w.heap.size w).alloc (Nat.le_refl _) (.cells #[] 97))
    have hall : ∃ news : List Value, news.length = l.length * 7 ∧ (∀ (j : Nat) u, news[j]? = some u → (w.alloc (.cells #[] 97)).cell? (a.add j) = some u) ∧ (∀ u ∈ news, u.oneCell' = true) ∧
        ∀ (w' : World) g', Below w.heap.size w w' → (∀ j, j < l.length * 7 → w'.cell? ⟨g', j, none⟩ = news[j]?) → ∀ (i : Nat) x, l[i]? = some x → bxR K w' g' (i * 7) x := by
      by_cases h0 : l.length = 0
      · refine ⟨[], by rw [h0]; rfl, fun j u h => (by simp at h), fun u h => (by cases h), fun w' g' _ _ i x hx => ?_⟩
        have := (List.getElem?_eq_some_iff.1 hx).1
        omega
      · obtain ⟨g, off, e, hK, hr⟩ := h3 (by omega)
        injection e with e
        subst e
        obtain ⟨news, q1, q2, q3⟩ := cells_list (w := w) (g := g) (off := off) (m := l.length * 7) (fun j hj => by
          have hi : j / 7 < l.length := by omega
          have := (hr (j / 7) _ (List.getElem?_eq_getElem hi)).all (j % 7) (by omega)
          rwa [show off + j / 7 * 7 + j % 7 = off + j by omega] at this)
        refine ⟨news, q1, fun j u h => ?_, q3, fun w' g' hb hc i x hx => ?_⟩
        · rw [Addr.add_lit]
          have := q2 j u h
          exact ((cell_same (w := w) (p := ⟨g, off + j, none⟩) (Below.heap_alloc w _ g (cell_lt this)))).trans this
        · have hi := (List.getElem?_eq_some_iff.1 hx).1
          refine (hr i x hx).moved (fun k hk => ?_) (Kept.of_all hb) (fun _ h => h)
          have hj : i * 7 + k < l.length * 7 := by omega
          rw [hc _ hj, List.getElem?_eq_getElem (by omega), show off + i * 7 + k = off + (i * 7 + k) by omega]
          exact (q2 _ _ (List.getElem?_eq_getElem (by omega))).symm
    obtain ⟨news, q1, q2, q3, q4⟩ := hall
    have HQ1 := Lib.hid q1
    have HQ2 := Lib.hid q2
    have HQ3 := Lib.hid q3
    have HQ4 := Lib.hid q4
    clear h3 q1 q2 q3 q4
    have qn := fun (w : World) => Lib.run_eql_slice_nil (P := Tryz.prog) w 37 _ (some a) l.length cap 0 0 Tryz.underlying37
    go_enter Tryz.func82, Tryz.ntmps82
    go_wp2_with (at_builtin; refine wpList_append_own_at _ rfl (.tmp 5) (.tmp 6) _ rfl w.heap.size 97 i0 _ 7 88 Tryz.underlying37 hi0 hz0 hz1 hz2 rfl (by omega) (.slice (some ⟨w.heap.size, 0, none⟩) 0 0) 0 [] rfl ho1.out a l.length cap news rfl HQ1.out HQ2.out HQ3.out (by unfold maxLen; omega) (by omega) (by simp) ?_; intro v1 w2 hown1 hg1 _ _)
    go_ret
    have hB2 : Below w.heap.size w w2 := hB1.out.grown hg1 (by simp) (by intro k hk; simp only [Value.ownBlock, Option.some.injEq] at hk; omega)
    rw [Nat.zero_add, List.nil_append] at hown1
    exact ⟨v1, rfl, CloneAt.of_own hown1 (fun g hc => HQ4.out w2 g hB2 hc), hB2⟩
set_option maxRecDepth 100000 in
/-- slices.Clone, of lines. -/
theorem cCloneL (K : Nat → Prop) (v : Value) (l : List Ln) (w : World) (h : LnsAt K w v l) (hz : l.length ≤ 1000000000000) :
    Calls Tryz.prog 70 #[v] w fun e w' => ∃ v', e = .returned v' ∧ CloneAt 5 (lnR K) w.heap.size 39 w' v' l ∧ Below w.heap.size w w' := by
  obtain ⟨A, cap, rfl, h1, h2, h3⟩ := h
  obtain ⟨i0, hi0, hz0, hz1, hz2⟩ := info_parts line_info
  cases A with
  | none =>
    have h0 : l.length = 0 := by
      rcases Nat.eq_zero_or_pos l.length with h | h
      · exact h
      · obtain ⟨g, off, e, _⟩ := h3 h
        cases e
    have : l = [] := List.length_eq_zero_iff.1 h0
    subst this
    clear h3
    show Calls Tryz.prog 70 #[.slice none 0 cap] w _
    have qn := fun (w : World) => Lib.run_eql_slice_nil (P := Tryz.prog) w 31 _ none 0 cap 0 0 Tryz.underlying31
    go_enter Tryz.func70, Tryz.ntmps70
    go_wp2_with fail
    go_ret
    exact ⟨_, rfl, ⟨none, 0, rfl, Nat.le_refl _, Nat.zero_le _, fun h => absurd h (Nat.lt_irrefl 0)⟩, Below.refl _ _⟩
  | some a =>
    have ho1 := Lib.hid (World.ownsRow_lit (e := 39) (size := 5) w #[] 0 (Nat.le_refl _) (by unfold maxLen; omega) rfl)
    have hB1 := Lib.hid ((Below.refl w.heap.size w).alloc (Nat.le_refl _) (.cells #[] 39))
    have hall : ∃ news : List Value, news.length = l.length * 5 ∧ (∀ (j : Nat) u, news[j]? = some u → (w.alloc (.cells #[] 39)).cell? (a.add j) = some u) ∧ (∀ u ∈ news, u.oneCell' = true) ∧
        ∀ (w' : World) g', Below w.heap.size w w' → (∀ j, j < l.length * 5 → w'.cell? ⟨g', j, none⟩ = news[j]?) → ∀ (i : Nat) x, l[i]? = some x → lnR K w' g' (i * 5) x := by
      by_cases h0 : l.length = 0
      · refine ⟨[], by rw [h0]; rfl, fun j u h => (by simp at h), fun u h => (by cases h), fun w' g' _ _ i x hx => ?_⟩
        have := (List.getElem?_eq_some_iff.1 hx).1
        omega
      · obtain ⟨g, off, e, hK, hr⟩ := h3 (by omega)
        injection e with e
        subst e
        obtain ⟨news, q1, q2, q3⟩ := cells_list (w := w) (g := g) (off := off) (m := l.length * 5) (fun j hj => by
          have hi : j / 5 < l.length := by omega
          have := (hr (j / 5) _ (List.getElem?_eq_getElem hi)).all (j % 5) (by omega)
          rwa [show off + j / 5 * 5 + j % 5 = off + j by omega] at this)
        refine ⟨news, q1, fun j u h => ?_, q3, fun w' g' hb hc i x hx => ?_⟩
        · rw [Addr.add_lit]
          have := q2 j u h
          exact ((cell_same (w := w) (p := ⟨g, off + j, none⟩) (Below.heap_alloc w _ g (cell_lt this)))).trans this
        · have hi := (List.getElem?_eq_some_iff.1 hx).1
          refine (hr i x hx).moved (fun k hk => ?_) (Kept.of_all hb) (fun _ h => h)
          have hj : i * 5 + k < l.length * 5 := by omega
          rw [hc _ hj, List.getElem?_eq_getElem (by omega), show off + i * 5 + k = off + (i * 5 + k) by omega]
          exact (q2 _ _ (List.getElem?_eq_getElem (by omega))).symm
    obtain ⟨news, q1, q2, q3, q4⟩ := hall
    have HQ1 := Lib.hid q1
    have HQ2 := Lib.hid q2
    have HQ3 := Lib.hid q3
    have HQ4 := Lib.hid q4
    clear h3 q1 q2 q3 q4
    have qn := fun (w : World) => Lib.run_eql_slice_nil (P := Tryz.prog) w 31 _ (some a) l.length cap 0 0 Tryz.underlying31
    go_enter Tryz.func70, Tryz.ntmps70
    go_wp2_with (at_builtin; refine wpList_append_own_at _ rfl (.tmp 5) (.tmp 6) _ rfl w.heap.size 39 i0 _ 5 64 Tryz.underlying31 hi0 hz0 hz1 hz2 rfl (by omega) (.slice (some ⟨w.heap.size, 0, none⟩) 0 0) 0 [] rfl ho1.out a l.length cap news rfl HQ1.out HQ2.out HQ3.out (by unfold maxLen; omega) (by omega) (by simp) ?_; intro v1 w2 hown1 hg1 _ _)
    go_ret
    have hB2 : Below w.heap.size w w2 := hB1.out.grown hg1 (by simp) (by intro k hk; simp only [Value.ownBlock, Option.some.injEq] at hk; omega)
    rw [Nat.zero_add, List.nil_append] at hown1
    exact ⟨v1, rfl, CloneAt.of_own hown1 (fun g hc => HQ4.out w2 g hB2 hc), hB2⟩
end Go.Proofs.YtbedddgfijpbcaaGreat
