/- Walks: slices.Clone, of numbers, boxes, lines. Walks: copies of boxes and of lines. Walk: copies of lines. Walks: Macro, Lines, Kind, Length, Chop. -/
import Derived.Test.YtpgkhhchpojlaaaGreatDoorVn
import Derived.Test.YtpgkhhchpojlaaaGreatDoorEd
import Derived.Maps.AppendAt
import Derived.Deep.AppendLies
import Derived.RegionTactic
import Derived.OwnWalk
import Derived.Lib.SliceRun
namespace Go.Proofs.YtpgkhhchpojlaaaGreatDoor.Sto
open Go.RowKit Go.Maps Go.WideMaps

/-- What a clone is. -/
def CloneAt {α : Type} (sz : Nat) (R : World → Nat → Nat → α → Prop) (b : Nat) (t : TypeId) (w : World) (v : Value) (l : List α) : Prop :=
  ∃ A cap, v = .slice A l.length cap ∧ l.length ≤ cap ∧ cap ≤ maxLen ∧ (0 < cap → ∃ g cs, A = some ⟨g, 0, none⟩ ∧ b ≤ g ∧ Blk w g t cs ∧ cs.size = cap * sz ∧ ∀ (i : Nat) x, l[i]? = some x → R w g (i * sz) x)
theorem CloneAt.of_own {α : Type} {sz : Nat} {R : World → Nat → Nat → α → Prop} {b : Nat} {t : TypeId} {w : World} {v : Value} {l : List α} {news : List Value} (h : w.ownsRow b t sz v l.length news) (hR : ∀ g, (∀ j, j < l.length * sz → w.cell? ⟨g, j, none⟩ = news[j]?) → ∀ (i : Nat) x, l[i]? = some x → R w g (i * sz) x) : CloneAt sz R b t w v l := by
  rcases h.2 with ⟨rfl, h0⟩ | ⟨g, cap, cur, rfl, hb, hg, hn, hm, hs, _⟩
  · exact ⟨none, 0, by rw [h0], by omega, Nat.zero_le _, fun h => absurd h (Nat.lt_irrefl 0)⟩
  · exact ⟨_, cap, rfl, hn, hm, fun _ => ⟨g, cur, rfl, hb, hg, hs, hR g (fun j hj => h.cellAt j hj)⟩⟩
/-- slices.Clone, of numbers. -/
theorem cCloneN (K : Nat → Prop) (v : Value) (l : List Int) (w : World) (h : NsAt K w v l) (hz : l.length * 8 ≤ 140737488355328) :
    Calls Tryz.prog 74 #[v] w fun e w' => ∃ v', e = .returned v' ∧ NsAt (fun i => w.heap.size ≤ i ∧ i < w'.heap.size) w' v' l ∧ (∃ A n c, v' = .slice A n c) ∧ Below w.heap.size w w' := by
  obtain ⟨A, cap, rfl, h1, h2, h3⟩ := h
  cases A with
  | none =>
    have h0 : l.length = 0 := by
      rcases Nat.eq_zero_or_pos l.length with h | h
      · exact h
      · obtain ⟨g, off, e, _⟩ := h3 h
        cases e
    have : l = [] := List.length_eq_zero_iff.1 h0
    subst this
    exact (Tryz.slices_Clone_int_nil _ cap w).mono fun e w' ⟨he, hw⟩ => ⟨_, he, RowAt.nil, ⟨_, _, _, rfl⟩, by rw [hw]; exact Below.refl _ _⟩
  | some a =>
    by_cases h0 : l.length = 0
    · have : l = [] := List.length_eq_zero_iff.1 h0
      subst this
      refine (Tryz.slices_Clone_int_zero a cap w).mono fun e w' ⟨v', he, hr, _, hb⟩ => ⟨v', he, ?_, ?_, hb⟩
      · rcases hr.2 with ⟨rfl, _⟩ | ⟨g, cap', cur, rfl, _, _, _, hm, _⟩
        · exact RowAt.nil
        · exact ⟨_, cap', rfl, Nat.zero_le _, hm, fun h => absurd h (Nat.lt_irrefl 0)⟩
      · rcases hr.2 with ⟨rfl, _⟩ | ⟨g, cap', cur, rfl, _⟩
        · exact ⟨_, _, _, rfl⟩
        · exact ⟨_, _, _, rfl⟩
    · obtain ⟨g, off, e, hK, hr⟩ := h3 (by omega)
      injection e with e
      subst e
      refine (Tryz.slices_Clone_int g off l.length cap l w (Nat.le_refl _) hz (fun j hj => ?_)).mono fun e w' ⟨v', he, hrow, _, hb⟩ => ⟨v', he, ?_, ?_, hb⟩
      · have := hr j l[j] (List.getElem?_eq_getElem hj)
        unfold numR at this
        rw [Nat.mul_one] at this
        rw [this, List.getD_eq_getElem?_getD, List.getElem?_eq_getElem hj]
        rfl
      · rw [List.take_of_length_le (Nat.le_refl _)] at hrow
        rcases hrow.2 with ⟨rfl, h0'⟩ | ⟨g', cap', cur, rfl, hbg, hg, hn, hm, _⟩
        · exact absurd h0' h0
        · refine ⟨_, cap', rfl, hn, hm, fun _ => ⟨g', 0, rfl, ⟨hbg, ?_⟩, fun i x hx => ?_⟩⟩
          · rcases Nat.lt_or_ge g' w'.heap.size with h | h
            · exact h
            · rw [Array.getElem?_eq_none h] at hg; cases hg
          · have hi := (List.getElem?_eq_some_iff.1 hx).1
            unfold numR
            rw [Nat.zero_add, Nat.mul_one, hrow.cellAt i (by omega), List.getElem?_map, hx]
            rfl
      · rcases hrow.2 with ⟨rfl, _⟩ | ⟨g', cap', cur, rfl, _⟩
        · exact ⟨_, _, _, rfl⟩
        · exact ⟨_, _, _, rfl⟩
section
variable {K K' : Nat → Prop} {w w' : World}
end
set_option maxRecDepth 100000 in
/-- slices.Clone, of boxes. -/
theorem cCloneB (K : Nat → Prop) (v : Value) (l : List Bx) (w : World) (h : BxsAt K w v l) (hz : l.length ≤ 1599289640401) :
    Calls Tryz.prog 73 #[v] w fun e w' => ∃ v', e = .returned v' ∧ CloneAt 7 (bxR K) w.heap.size 83 w' v' l ∧ Below w.heap.size w w' := by
  obtain ⟨A, cap, rfl, h1, h2, h3⟩ := h
  obtain ⟨i0, hi0, hz0, hz1, hz2⟩ := info_parts box_info
  cases A with
  | none =>
    have h0 : l.length = 0 := by
      rcases Nat.eq_zero_or_pos l.length with h | h
      · exact h
      · obtain ⟨g, off, e, _⟩ := h3 h
        cases e
    have : l = [] := List.length_eq_zero_iff.1 h0
    subst this
    clear h3
    show Calls Tryz.prog 73 #[.slice none 0 cap] w _
    have qn := fun (w : World) => Lib.run_eql_slice_nil (P := Tryz.prog) w 29 _ none 0 cap 0 0 Tryz.underlying29
    go_enter Tryz.func73, Tryz.ntmps73
    go_wp2_with fail
    go_ret
    exact ⟨_, rfl, ⟨none, 0, rfl, Nat.le_refl _, Nat.zero_le _, fun h => absurd h (Nat.lt_irrefl 0)⟩, Below.refl _ _⟩
  | some a =>
    have ho1 := Lib.hid (World.ownsRow_lit (e := 83) (size := 7) w #[] 0 (Nat.le_refl _) (by unfold maxLen; omega) rfl)
    have hB1 := Lib.hid ((Below.refl w.heap.size w).alloc (Nat.le_refl _) (.cells #[] 83))
    have hall : ∃ news : List Value, news.length = l.length * 7 ∧ (∀ (j : Nat) u, news[j]? = some u → (w.alloc (.cells #[] 83)).cell? (a.add j) = some u) ∧ (∀ u ∈ news, u.oneCell' = true) ∧
        ∀ (w' : World) g', Below w.heap.size w w' → (∀ j, j < l.length * 7 → w'.cell? ⟨g', j, none⟩ = news[j]?) → ∀ (i : Nat) x, l[i]? = some x → bxR K w' g' (i * 7) x := by
      by_cases h0 : l.length = 0
      · refine ⟨[], by rw [h0]; rfl, fun j u h => (by simp at h), fun u h => (by cases h), fun w' g' _ _ i x hx => ?_⟩
        have := (List.getElem?_eq_some_iff.1 hx).1
        omega
      · obtain ⟨g, off, e, hK, hr⟩ := h3 (by omega)
        injection e with e
        subst e
        obtain ⟨news, q1, q2, q3⟩ := cells_list (w := w) (g := g) (off := off) (m := l.length * 7) (fun j hj => by
          have hi : j / 7 < l.length := by omega
          have := (hr (j / 7) _ (List.getElem?_eq_getElem hi)).all (j % 7) (by omega)
          rwa [show off + j / 7 * 7 + j % 7 = off + j by omega] at this)
        refine ⟨news, q1, fun j u h => ?_, q3, fun w' g' hb hc i x hx => ?_⟩
        · rw [Addr.add_lit]
          have := q2 j u h
          exact ((cell_same (w := w) (p := ⟨g, off + j, none⟩) (Below.heap_alloc w _ g (cell_lt this)))).trans this
        · have hi := (List.getElem?_eq_some_iff.1 hx).1
          refine (hr i x hx).moved (fun k hk => ?_) (Kept.of_all hb) (fun _ h => h)
          have hj : i * 7 + k < l.length * 7 := by omega
          rw [hc _ hj, List.getElem?_eq_getElem (by omega), show off + i * 7 + k = off + (i * 7 + k) by omega]
          exact (q2 _ _ (List.getElem?_eq_getElem (by omega))).symm
    obtain ⟨news, q1, q2, q3, q4⟩ := hall
    have HQ1 := Lib.hid q1
    have HQ2 := Lib.hid q2
    have HQ3 := Lib.hid q3
    have HQ4 := Lib.hid q4
    clear h3 q1 q2 q3 q4
    have qn := fun (w : World) => Lib.run_eql_slice_nil (P := Tryz.prog) w 29 _ (some a) l.length cap 0 0 Tryz.underlying29
    go_enter Tryz.func73, Tryz.ntmps73
    go_wp2_with (at_builtin; refine wpList_append_own_at _ rfl (.tmp 5) (.tmp 6) _ rfl w.heap.size 83 i0 _ 7 88 Tryz.underlying29 hi0 hz0 hz1 hz2 rfl (by omega) (.slice (some ⟨w.heap.size, 0, none⟩) 0 0) 0 [] rfl ho1.out a l.length cap news rfl HQ1.out HQ2.out HQ3.out (by unfold maxLen; omega) (by omega) (by simp) ?_; intro v1 w2 hown1 hg1 _ _)
    go_ret
    have hB2 : Below w.heap.size w w2 := hB1.out.grown hg1 (by simp) (by intro k hk; simp only [Value.ownBlock, Option.some.injEq] at hk; omega)
    rw [Nat.zero_add, List.nil_append] at hown1
    exact ⟨v1, rfl, CloneAt.of_own hown1 (fun g hc => HQ4.out w2 g hB2 hc), hB2⟩
set_option maxRecDepth 100000 in
/-- slices.Clone, of lines. -/
theorem cCloneL (K : Nat → Prop) (v : Value) (l : List Ln) (w : World) (h : LnsAt K w v l) (hz : l.length ≤ 1000000000000) :
    Calls Tryz.prog 90 #[v] w fun e w' => ∃ v', e = .returned v' ∧ CloneAt 5 (lnR K) w.heap.size 31 w' v' l ∧ Below w.heap.size w w' := by
  obtain ⟨A, cap, rfl, h1, h2, h3⟩ := h
  obtain ⟨i0, hi0, hz0, hz1, hz2⟩ := info_parts line_info
  cases A with
  | none =>
    have h0 : l.length = 0 := by
      rcases Nat.eq_zero_or_pos l.length with h | h
      · exact h
      · obtain ⟨g, off, e, _⟩ := h3 h
        cases e
    have : l = [] := List.length_eq_zero_iff.1 h0
    subst this
    clear h3
    show Calls Tryz.prog 90 #[.slice none 0 cap] w _
    have qn := fun (w : World) => Lib.run_eql_slice_nil (P := Tryz.prog) w 35 _ none 0 cap 0 0 Tryz.underlying35
    go_enter Tryz.func90, Tryz.ntmps90
    go_wp2_with fail
    go_ret
    exact ⟨_, rfl, ⟨none, 0, rfl, Nat.le_refl _, Nat.zero_le _, fun h => absurd h (Nat.lt_irrefl 0)⟩, Below.refl _ _⟩
  | some a =>
    have ho1 := Lib.hid (World.ownsRow_lit (e := 31) (size := 5) w #[] 0 (Nat.le_refl _) (by unfold maxLen; omega) rfl)
    have hB1 := Lib.hid ((Below.refl w.heap.size w).alloc (Nat.le_refl _) (.cells #[] 31))
    have hall : ∃ news : List Value, news.length = l.length * 5 ∧ (∀ (j : Nat) u, news[j]? = some u → (w.alloc (.cells #[] 31)).cell? (a.add j) = some u) ∧ (∀ u ∈ news, u.oneCell' = true) ∧
        ∀ (w' : World) g', Below w.heap.size w w' → (∀ j, j < l.length * 5 → w'.cell? ⟨g', j, none⟩ = news[j]?) → ∀ (i : Nat) x, l[i]? = some x → lnR K w' g' (i * 5) x := by
      by_cases h0 : l.length = 0
      · refine ⟨[], by rw [h0]; rfl, fun j u h => (by simp at h), fun u h => (by cases h), fun w' g' _ _ i x hx => ?_⟩
        have := (List.getElem?_eq_some_iff.1 hx).1
        omega
      · obtain ⟨g, off, e, hK, hr⟩ := h3 (by omega)
        injection e with e
        subst e
        obtain ⟨news, q1, q2, q3⟩ := cells_list (w := w) (g := g) (off := off) (m := l.length * 5) (fun j hj => by
          have hi : j / 5 < l.length := by omega
          have := (hr (j / 5) _ (List.getElem?_eq_getElem hi)).all (j % 5) (by omega)
          rwa [show off + j / 5 * 5 + j % 5 = off + j by omega] at this)
        refine ⟨news, q1, fun j u h => ?_, q3, fun w' g' hb hc i x hx => ?_⟩
        · rw [Addr.add_lit]
          have := q2 j u h
          exact ((cell_same (w := w) (p := ⟨g, off + j, none⟩) (Below.heap_alloc w _ g (cell_lt this)))).trans this
        · have hi := (List.getElem?_eq_some_iff.1 hx).1
          refine (hr i x hx).moved (fun k hk => ?_) (Kept.of_all hb) (fun _ h => h)
          have hj : i * 5 + k < l.length * 5 := by omega
          rw [hc _ hj, List.getElem?_eq_getElem (by omega), show off + i * 5 + k = off + (i * 5 + k) by omega]
          exact (q2 _ _ (List.getElem?_eq_getElem (by omega))).symm
    obtain ⟨news, q1, q2, q3, q4⟩ := hall
    have HQ1 := Lib.hid q1
    have HQ2 := Lib.hid q2
    have HQ3 := Lib.hid q3
    have HQ4 := Lib.hid q4
    clear h3 q1 q2 q3 q4
    have qn := fun (w : World) => Lib.run_eql_slice_nil (P := Tryz.prog) w 35 _ (some a) l.length cap 0 0 Tryz.underlying35
    go_enter Tryz.func90, Tryz.ntmps90
    go_wp2_with (at_builtin; refine wpList_append_own_at _ rfl (.tmp 5) (.tmp 6) _ rfl w.heap.size 31 i0 _ 5 64 Tryz.underlying35 hi0 hz0 hz1 hz2 rfl (by omega) (.slice (some ⟨w.heap.size, 0, none⟩) 0 0) 0 [] rfl ho1.out a l.length cap news rfl HQ1.out HQ2.out HQ3.out (by unfold maxLen; omega) (by omega) (by simp) ?_; intro v1 w2 hown1 hg1 _ _)
    go_ret
    have hB2 : Below w.heap.size w w2 := hB1.out.grown hg1 (by simp) (by intro k hk; simp only [Value.ownBlock, Option.some.injEq] at hk; omega)
    rw [Nat.zero_add, List.nil_append] at hown1
    exact ⟨v1, rfl, CloneAt.of_own hown1 (fun g hc => HQ4.out w2 g hB2 hc), hB2⟩
end Go.Proofs.YtpgkhhchpojlaaaGreatDoor.Sto
namespace Go.Proofs.YtpgkhhchpojlaaaGreatDoor.Sto
open Go.RowKit Go.Maps Go.WideMaps

/-- Blocks from b on, but for g. -/
def Kn (b g : Nat) (w : World) (k : Nat) : Prop := b ≤ k ∧ k ≠ g ∧ k < w.heap.size
/-- Boxes whose numbers are copied up to the i-th. -/
def RCb (K : Nat → Prop) (b n cap : Nat) (A : Option Addr) (bs : List Bx) (w : World) (v9 : Value) (wr : World) : Prop :=
  ∃ i : Nat, i ≤ n ∧ v9 = .int .i64 i ∧ Below b w wr ∧ b ≤ wr.heap.size ∧ (0 < n → ∃ g cs, A = some ⟨g, 0, none⟩ ∧ b ≤ g ∧ Blk wr g 83 cs ∧ cs.size = cap * 7 ∧ ∀ (j : Nat) x, bs[j]? = some x → (j < i → bxR (Kn b g wr) wr g (j * 7) x) ∧ (i ≤ j → bxR K wr g (j * 7) x))
theorem RCb.step {K : Nat → Prop} {b cap i g : Nat} {bs : List Bx} {w wr w1 : World} {cs : Array Value} {x : Bx} {v : Value} (hK : ∀ k, K k → k < b) (hbg : b ≤ g) (hB : Below b w wr) (hbw : b ≤ wr.heap.size) (hb : Blk wr g 83 cs) (hcs : cs.size = cap * 7) (hi : bs[i]? = some x) (hic : i < cap)
    (hr : ∀ (j : Nat) x, bs[j]? = some x → (j < i → bxR (Kn b g wr) wr g (j * 7) x) ∧ (i ≤ j → bxR K wr g (j * 7) x)) (hb1 : Below wr.heap.size wr w1) (hv : NsAt (fun k => wr.heap.size ≤ k ∧ k < w1.heap.size) w1 v x.n) :
    Below b w (w1.setCell ⟨g, i * 7 + 6, none⟩ v) ∧ b ≤ (w1.setCell ⟨g, i * 7 + 6, none⟩ v).heap.size ∧ Blk (w1.setCell ⟨g, i * 7 + 6, none⟩ v) g 83 (cs.setIfInBounds (i * 7 + 6) v) ∧ (cs.setIfInBounds (i * 7 + 6) v).size = cap * 7 ∧
      ∀ (j : Nat) x, bs[j]? = some x → (j < i + 1 → bxR (Kn b g (w1.setCell ⟨g, i * 7 + 6, none⟩ v)) (w1.setCell ⟨g, i * 7 + 6, none⟩ v) g (j * 7) x) ∧ (i + 1 ≤ j → bxR K (w1.setCell ⟨g, i * 7 + 6, none⟩ v) g (j * 7) x) := by
  have hg1 : Blk w1 g 83 cs := (hb1.block g hb.lt).trans hb
  have hT := turn_set w1 g (i * 7 + 6) v
  have hTw : Turn (· = g) wr (w1.setCell ⟨g, i * 7 + 6, none⟩ v) := (Turn.of_below hb1 : Turn (· = g) wr w1).trans hT (fun _ _ h => h)
  have hsz := hTw.size
  have hs1 := hb1.size
  have hs2 := hT.size
  have hin : i * 7 + 6 < cs.size := by rw [hcs]; omega
  have hcell : ∀ o, o ≠ i * 7 + 6 → (w1.setCell ⟨g, i * 7 + 6, none⟩ v).cell? ⟨g, o, none⟩ = wr.cell? ⟨g, o, none⟩ := fun o ho => (cell_set hg1 v ho).trans (cell_same (p := ⟨g, o, none⟩) (hb1.block g hb.lt))
  refine ⟨Turn.below hB hTw hbw (fun k e => by rw [e]; exact hbg), Nat.le_trans hbw hsz, blk_set hg1 v, by rw [Array.size_setIfInBounds, hcs], fun j y hj => ⟨fun h => ?_, fun h => ?_⟩⟩
  · by_cases e : j = i
    · subst e
      rw [hi] at hj
      injection hj with hj
      subst hj
      have h0 := (hr j x hi).2 (Nat.le_refl _)
      refine ⟨(hcell _ (by omega)).trans h0.c0, (hcell _ (by omega)).trans h0.c1, (hcell _ (by omega)).trans h0.c2, (hcell _ (by omega)).trans h0.c3, (hcell _ (by omega)).trans h0.c4, (hcell _ (by omega)).trans h0.c5, ⟨v, cell_set_at hg1 v hin, ?_⟩, h0.s6⟩
      have hgl := hb.lt
      exact hv.stay (fun k hk hkl => hT.block k hkl (fun e => by omega)) (fun k hk => ⟨by omega, by omega, by omega⟩)
    · have h0 := (hr j y hj).1 (by omega)
      exact h0.moved (fun k hk => hcell _ (by omega)) (Kept.of_turn hTw (fun k hk e => hk.2.1 e)) (fun k hk => ⟨hk.1, hk.2.1, Nat.lt_of_lt_of_le hk.2.2 hsz⟩)
  · have h0 := (hr j y hj).2 (by omega)
    exact h0.moved (fun k hk => hcell _ (by omega)) (Kept.of_turn hTw (fun k hk e => by have := hK k hk; omega)) (fun _ h => h)
set_option maxHeartbeats 400000 in
/-- copyBoxes. -/
theorem cCopyB (K : Nat → Prop) (v : Value) (bs : List Bx) (w : World) (h : BxsAt K w v bs) (hK : ∀ k, K k → k < w.heap.size) (hz : bs.length ≤ 1599289640401) :
    Calls Tryz.prog 91 #[v] w fun e w' => ∃ A c, e = .returned (.slice A bs.length c) ∧ BxsAt (fun k => w.heap.size ≤ k ∧ k < w'.heap.size) w' (.slice A bs.length c) bs ∧ Below w.heap.size w w' := by
  have HC := Lib.hid (cCloneB K v bs w h hz)
  have hs6 : ∀ (i : Nat) x, bs[i]? = some x → x.n.length * 8 ≤ 140737488355328 := fun i x hx => by
    obtain ⟨A, cap, rfl, h1, h2, h3⟩ := h
    have hi := (List.getElem?_eq_some_iff.1 hx).1
    obtain ⟨g, off, _, _, hr⟩ := h3 (by omega)
    exact (hr i x hx).s6
  have HS := Lib.hid hs6
  have HK := Lib.hid hK
  clear h hs6 hK
  go_enter Tryz.func91, Tryz.ntmps91
  go_wp2_with (go_at_call 73; refine HC.out.mono ?_; rintro e w1 ⟨v1, rfl, ⟨A, cap, rfl, hn, hm, hcl⟩, hb1⟩)
  have HCl := Lib.hid hcl
  have HB1 := Lib.hid hb1
  clear hcl hb1
  go_loopw [9] (fun v9 wr => RCb K w.heap.size bs.length cap A bs w v9 wr) (fun v9 _ => bs.length - (intOf v9).toNat)
  case atStart =>
    refine ⟨0, Nat.zero_le _, rfl, HB1.out, HB1.out.size, fun h0 => ?_⟩
    obtain ⟨g, cs, e, hbg, hb, hcs, hr⟩ := HCl.out (by omega)
    exact ⟨g, cs, e, hbg, hb, hcs, fun j x hj => ⟨fun h => absurd h (Nat.not_lt_zero _), fun _ => hr j x hj⟩⟩
  case round =>
    obtain ⟨i, hi, rfl, hB, hbw, hrow⟩ := hrel
    have HRow := Lib.hid hrow
    clear hrow
    by_cases hlt : i < bs.length
    · obtain ⟨g, cs, rfl, hbg, hb, hcs, hr⟩ := HRow.out (by omega)
      have hx : bs[i]? = some bs[i] := List.getElem?_eq_getElem hlt
      have h0 := (hr i _ hx).2 (Nat.le_refl _)
      obtain ⟨v6, c6, hns⟩ := h0.c6
      have hz6 := HS.out i _ hx
      have HN := Lib.hid (cCloneN K v6 bs[i].n wr hns hz6)
      have hf6 := fun (w2 : World) (hb2 : Below wr.heap.size wr w2) => (show w2.frozen? ⟨g, i * 7 + 6, none⟩ = false from Blk.frozen ((hb2.block g hb.lt).trans hb : Blk w2 g 83 cs) _)
      have hc6 := fun (w2 : World) (hb2 : Below wr.heap.size wr w2) => (show w2.cell? ⟨g, i * 7 + 6, none⟩ = some v6 from (cell_same (p := ⟨g, i * 7 + 6, none⟩) (hb2.block g hb.lt)).trans c6)
      have HStep := Lib.hid (fun (w2 : World) (v : Value) hb2 hv => RCb.step (v := v) (w1 := w2) HK.out hbg hB hbw hb hcs hx (by omega) hr hb2 hv)
      have HF6 := Lib.hid hf6
      have HC6 := Lib.hid hc6
      clear h0 hns hz6 hr hf6 hc6
      generalize bs[i] = x at *
      go_wp2_with (go_at_call 74; refine HN.out.mono ?_; rintro e w2 ⟨v2, rfl, hns2, ⟨A2, n2, c2, rfl⟩, hb2⟩; have f6 := HF6.out _ hb2; have d6 := HC6.out _ hb2)
      go_roundw
      case rel =>
        obtain ⟨q1, q2, q3, q4, q5⟩ := HStep.out _ _ hb2 hns2
        exact ⟨i + 1, by omega, by go_num, q1, q2, fun _ => ⟨g, _, rfl, hbg, q3, q4, q5⟩⟩
      case measure => simp [intOf]; omega
    · go_wp2
      go_ret
      refine ⟨A, cap, rfl, ⟨A, cap, rfl, hn, hm, fun h0 => ?_⟩, hB⟩
      obtain ⟨g, cs, e, hbg, hb, hcs, hr⟩ := HRow.out (by omega)
      refine ⟨g, 0, e, ⟨hbg, hb.lt⟩, fun j x hj => ?_⟩
      have hjl := (List.getElem?_eq_some_iff.1 hj).1
      have := (hr j x hj).1 (by omega)
      rw [Nat.zero_add]
      exact this.moved (fun _ _ => rfl) (fun _ _ _ => rfl) (fun k hk => ⟨hk.1, hk.2.2⟩)
end Go.Proofs.YtpgkhhchpojlaaaGreatDoor.Sto
namespace Go.Proofs.YtpgkhhchpojlaaaGreatDoor.Sto
open Go.RowKit Go.Maps Go.WideMaps

/-- Lines whose boxes are copied up to the i-th. -/
def RCl (K : Nat → Prop) (b n cap : Nat) (A : Option Addr) (bs : List Ln) (w : World) (v9 : Value) (wr : World) : Prop :=
  ∃ i : Nat, i ≤ n ∧ v9 = .int .i64 i ∧ Below b w wr ∧ b ≤ wr.heap.size ∧ (0 < cap → ∃ g cs, A = some ⟨g, 0, none⟩ ∧ b ≤ g ∧ Blk wr g 31 cs ∧ cs.size = cap * 5 ∧ ∀ (j : Nat) x, bs[j]? = some x → (j < i → lnR (Kn b g wr) wr g (j * 5) x) ∧ (i ≤ j → lnR K wr g (j * 5) x))
theorem RCl.step {K : Nat → Prop} {b cap i g : Nat} {bs : List Ln} {w wr w1 : World} {cs : Array Value} {x : Ln} {v : Value} (hK : ∀ k, K k → k < b) (hbg : b ≤ g) (hB : Below b w wr) (hbw : b ≤ wr.heap.size) (hb : Blk wr g 31 cs) (hcs : cs.size = cap * 5) (hi : bs[i]? = some x) (hic : i < cap)
    (hr : ∀ (j : Nat) x, bs[j]? = some x → (j < i → lnR (Kn b g wr) wr g (j * 5) x) ∧ (i ≤ j → lnR K wr g (j * 5) x)) (hb1 : Below wr.heap.size wr w1) (hv : BxsAt (fun k => wr.heap.size ≤ k ∧ k < w1.heap.size) w1 v x.boxes) :
    Below b w (w1.setCell ⟨g, i * 5 + 4, none⟩ v) ∧ b ≤ (w1.setCell ⟨g, i * 5 + 4, none⟩ v).heap.size ∧ Blk (w1.setCell ⟨g, i * 5 + 4, none⟩ v) g 31 (cs.setIfInBounds (i * 5 + 4) v) ∧ (cs.setIfInBounds (i * 5 + 4) v).size = cap * 5 ∧
      ∀ (j : Nat) x, bs[j]? = some x → (j < i + 1 → lnR (Kn b g (w1.setCell ⟨g, i * 5 + 4, none⟩ v)) (w1.setCell ⟨g, i * 5 + 4, none⟩ v) g (j * 5) x) ∧ (i + 1 ≤ j → lnR K (w1.setCell ⟨g, i * 5 + 4, none⟩ v) g (j * 5) x) := by
  have hg1 : Blk w1 g 31 cs := (hb1.block g hb.lt).trans hb
  have hT := turn_set w1 g (i * 5 + 4) v
  have hTw : Turn (· = g) wr (w1.setCell ⟨g, i * 5 + 4, none⟩ v) := (Turn.of_below hb1 : Turn (· = g) wr w1).trans hT (fun _ _ h => h)
  have hsz := hTw.size
  have hs1 := hb1.size
  have hs2 := hT.size
  have hin : i * 5 + 4 < cs.size := by rw [hcs]; omega
  have hcell : ∀ o, o ≠ i * 5 + 4 → (w1.setCell ⟨g, i * 5 + 4, none⟩ v).cell? ⟨g, o, none⟩ = wr.cell? ⟨g, o, none⟩ := fun o ho => (cell_set hg1 v ho).trans (cell_same (p := ⟨g, o, none⟩) (hb1.block g hb.lt))
  refine ⟨Turn.below hB hTw hbw (fun k e => by rw [e]; exact hbg), Nat.le_trans hbw hsz, blk_set hg1 v, by rw [Array.size_setIfInBounds, hcs], fun j y hj => ⟨fun h => ?_, fun h => ?_⟩⟩
  · by_cases e : j = i
    · subst e
      rw [hi] at hj
      injection hj with hj
      subst hj
      have h0 := (hr j x hi).2 (Nat.le_refl _)
      refine ⟨(hcell _ (by omega)).trans h0.c0, (hcell _ (by omega)).trans h0.c1, (hcell _ (by omega)).trans h0.c2, (hcell _ (by omega)).trans h0.c3, ⟨v, cell_set_at hg1 v hin, ?_⟩, h0.s0, h0.s4⟩
      have hgl := hb.lt
      exact hv.stay (fun k hk hkl => hT.block k hkl (fun e => by omega)) (fun k hk => ⟨by omega, by omega, by omega⟩)
    · have h0 := (hr j y hj).1 (by omega)
      exact h0.moved (fun k hk => hcell _ (by omega)) (Kept.of_turn hTw (fun k hk e => hk.2.1 e)) (fun k hk => ⟨hk.1, hk.2.1, Nat.lt_of_lt_of_le hk.2.2 hsz⟩)
  · have h0 := (hr j y hj).2 (by omega)
    exact h0.moved (fun k hk => hcell _ (by omega)) (Kept.of_turn hTw (fun k hk e => by have := hK k hk; omega)) (fun _ h => h)
/-- What a copy of lines is. -/
def CopyAt (w w' : World) (v : Value) (ls : List Ln) : Prop :=
  ∃ r F, OwnLns r F w' v ls ∧ (∀ k, F k → w.heap.size ≤ k ∧ k < w'.heap.size) ∧ ∀ g, r = some g → w.heap.size ≤ g ∧ g < w'.heap.size ∧ ¬ F g
set_option maxHeartbeats 400000 in
/-- copyLines. -/
theorem cCopyL (K : Nat → Prop) (v : Value) (ls : List Ln) (w : World) (h : LnsAt K w v ls) (hK : ∀ k, K k → k < w.heap.size) (hz : ls.length ≤ 1000000000000) :
    Calls Tryz.prog 81 #[v] w fun e w' => ∃ A c, e = .returned (.slice A ls.length c) ∧ CopyAt w w' (.slice A ls.length c) ls ∧ Below w.heap.size w w' := by
  have HC := Lib.hid (cCloneL K v ls w h hz)
  have HK := Lib.hid hK
  clear h hK
  go_enter Tryz.func81, Tryz.ntmps81
  go_wp2_with (go_at_call 90; refine HC.out.mono ?_; rintro e w1 ⟨v1, rfl, ⟨A, cap, rfl, hn, hm, hcl⟩, hb1⟩)
  have HCl := Lib.hid hcl
  have HB1 := Lib.hid hb1
  clear hcl hb1
  go_loopw [9] (fun v9 wr => RCl K w.heap.size ls.length cap A ls w v9 wr) (fun v9 _ => ls.length - (intOf v9).toNat)
  case atStart =>
    refine ⟨0, Nat.zero_le _, rfl, HB1.out, HB1.out.size, fun h0 => ?_⟩
    obtain ⟨g, cs, e, hbg, hb, hcs, hr⟩ := HCl.out h0
    exact ⟨g, cs, e, hbg, hb, hcs, fun j x hj => ⟨fun h => absurd h (Nat.not_lt_zero _), fun _ => hr j x hj⟩⟩
  case round =>
    obtain ⟨i, hi, rfl, hB, hbw, hrow⟩ := hrel
    have HRow := Lib.hid hrow
    clear hrow
    by_cases hlt : i < ls.length
    · obtain ⟨g, cs, rfl, hbg, hb, hcs, hr⟩ := HRow.out (by omega)
      have hx : ls[i]? = some ls[i] := List.getElem?_eq_getElem hlt
      have h0 := (hr i _ hx).2 (Nat.le_refl _)
      obtain ⟨v6, c6, hns⟩ := h0.c4
      have HN := Lib.hid (cCopyB K v6 ls[i].boxes wr hns (fun k hk => Nat.lt_of_lt_of_le (HK.out k hk) hbw) h0.s4)
      have hf6 := fun (w2 : World) (hb2 : Below wr.heap.size wr w2) => (show w2.frozen? ⟨g, i * 5 + 4, none⟩ = false from Blk.frozen ((hb2.block g hb.lt).trans hb : Blk w2 g 31 cs) _)
      have hc6 := fun (w2 : World) (hb2 : Below wr.heap.size wr w2) => (show w2.cell? ⟨g, i * 5 + 4, none⟩ = some v6 from (cell_same (p := ⟨g, i * 5 + 4, none⟩) (hb2.block g hb.lt)).trans c6)
      have HStep := Lib.hid (fun (w2 : World) (v : Value) hb2 hv => RCl.step (v := v) (w1 := w2) HK.out hbg hB hbw hb hcs hx (by omega) hr hb2 hv)
      have HF6 := Lib.hid hf6
      have HC6 := Lib.hid hc6
      clear h0 hns hr hf6 hc6
      generalize ls[i] = x at *
      go_wp2_with (go_at_call 91; refine HN.out.mono ?_; rintro e w2 ⟨A2, c2, rfl, hns2, hb2⟩; have f6 := HF6.out _ hb2; have d6 := HC6.out _ hb2)
      go_roundw
      case rel =>
        obtain ⟨q1, q2, q3, q4, q5⟩ := HStep.out _ _ hb2 hns2
        exact ⟨i + 1, by omega, by go_num, q1, q2, fun _ => ⟨g, _, rfl, hbg, q3, q4, q5⟩⟩
      case measure => simp [intOf]; omega
    · go_wp2
      go_ret
      refine ⟨A, cap, rfl, ?_, hB⟩
      by_cases h0 : cap = 0
      · exact ⟨none, fun _ => False, ⟨A, cap, rfl, hn, hm, fun _ => rfl, fun h => absurd h (by omega)⟩, fun _ h => h.elim, fun _ h => by cases h⟩
      · obtain ⟨g, cs, e, hbg, hb, hcs, hr⟩ := HRow.out (by omega)
        refine ⟨some g, Kn w.heap.size g wr, ⟨A, cap, rfl, hn, hm, fun h => absurd h h0, fun _ => ⟨g, 0, cs, e, rfl, hb, by omega, fun j x hj => ?_⟩⟩, fun k hk => ⟨hk.1, hk.2.2⟩, fun g' e' => ?_⟩
        · have hjl := (List.getElem?_eq_some_iff.1 hj).1
          have := (hr j x hj).1 (by omega)
          rwa [Nat.zero_add]
        · injection e' with e'
          subst e'
          exact ⟨hbg, hb.lt, fun h => h.2.1 rfl⟩
end Go.Proofs.YtpgkhhchpojlaaaGreatDoor.Sto
namespace Go.Proofs.YtpgkhhchpojlaaaGreatDoor.Sto
open Go.RowKit Go.Maps Go.WideMaps

/-- How put ends. -/
def PutEnd (pe : Int) (U F : Nat → Prop) (g bm : Nat) (w w' : World) (L : List Ent) (E : Nat → En) (s : ByteArray) (en : En) : Prop :=
  (pe ≠ 0 → Below w.heap.size w w') ∧ (pe = 0 → PutTo U F g bm w w' L E s en)

section
variable {U F : Nat → Prop} {R : Nat → Option Nat} {w : World} {g bm : Nat} {L : List Ent} {E : Nat → En}
theorem OwnLns.rd {r : Option Nat} {F K : Nat → Prop} {w : World} {v : Value} {ls : List Ln} (h : OwnLns r F w v ls) (hr : ∀ i, r = some i → K i) (hF : ∀ i, F i → K i) : LnsAt K w v ls := by
  obtain ⟨A, cap, e, h1, h2, h3, h4⟩ := h
  refine ⟨A, cap, e, h1, h2, fun h0 => ?_⟩
  obtain ⟨g, off, cs, eA, er, hb, hs, hl⟩ := h4 (by omega)
  refine ⟨g, off, eA, hr g er, fun i l hi => ?_⟩
  exact (hl i l hi).moved (fun _ _ => rfl) (fun _ _ _ => rfl) hF
theorem Put0.to_ {r : Option Nat} {Fx : Nat → Prop} {w2 w' : World} {s : ByteArray} {en : En} (h : Put0 r U Fx g bm w2 w' L E s en) (hb : Below w.heap.size w w2) (hr : ∀ i, r = some i → w.heap.size ≤ i) (hF : ∀ i, Fx i → F i ∨ w.heap.size ≤ i) : PutTo U F g bm w w' L E s en := by
  obtain ⟨e', U', R', h1, h2, h3, h4, h5⟩ := h
  refine ⟨e', U', Fx, R', h1, (Turn.of_below hb : Turn U w w2).trans h2 (fun _ _ h => h), fun i hi => ?_, hF, h4, fun hh => Nat.le_trans hb.size (h5 hh)⟩
  rcases h3 i hi with h | h | h
  · exact .inl h
  · exact .inr (hr i h)
  · exact .inr (Nat.le_trans hb.size h)
/-- put, of a copy of lines. -/
theorem cPutM (s : ByteArray) (v : Value) (ls : List Ln) (hs : s.size ≤ maxLen) (w1 w2 : World) (h : StAt U F R w g bm L E) (hb1 : Below w.heap.size w w1) (hb2 : Below w1.heap.size w1 w2) (hc : CopyAt w1 w2 v ls) (hz : ls.length ≤ 2000) (hn : nameB s = true) :
    Calls Tryz.prog 80 #[.pointer (some ⟨g, 0, none⟩), .string s, .agg #[.int .i64 2, .string ⟨#[]⟩, v]] w2 fun e w' => e = .returned (.int .i64 (putE L s)) ∧ PutEnd (putE L s) U F g bm w w' L E s (.mac ls) := by
  obtain ⟨r, F', ho, hF', hr⟩ := hc
  have hb := ntrans hb1 hb2
  have h2 := h.below hb
  have hsz := hb1.size
  have h3 : StAt U (fun i => F i ∨ F' i) R w2 g bm L E := h2.wide (fun _ h => h) (fun _ h => .inl h) h2.ug (by
    rintro i hi (h4 | h4)
    · exact h.uf i hi h4
    · have := h.ul i hi
      have := (hF' i h4).1
      omega) h2.ul (by
    rintro i (h4 | h4)
    · exact h2.fl i h4
    · exact (hF' i h4).2)
  refine (cPut s hs h3 (r := r) (k := 2) (t := ⟨#[]⟩) (v := v) (en := .mac ls) ⟨rfl, rfl, ho.stay (fun _ _ _ => rfl) (fun _ h => .inr h), hz⟩ (fun i hi => ?_) hn).mono fun e w' ⟨q1, q2, q3⟩ => ⟨q1, ?_⟩
  · have q := hr i hi
    refine ⟨fun h4 => ?_, ?_, fun e => ?_, q.2.1⟩
    · have := h.ul i h4; omega
    · rintro (h4 | h4)
      · have := h.fl i h4; omega
      · exact q.2.2 h4
    · have := h.blk.lt; omega
  · unfold putE
    cases hf : fullB L s
    · exact ⟨fun h => absurd rfl h, fun _ => (q3 hf).to_ hb (fun i hi => Nat.le_trans hsz (hr i hi).1) (fun i hi => by
        rcases hi with h4 | h4
        · exact .inl h4
        · exact .inr (Nat.le_trans hsz (hF' i h4).1))⟩
    · exact ⟨fun _ => ntrans hb (q2 hf), fun h => by cases h⟩
/-- What Macro answers. -/
def mcE (L : List Ent) (s : ByteArray) (ls : List Ln) : Int := if chk (lnsB ls) s = 0 then (if 2000 < ls.length then 2 else putE L s) else chk (lnsB ls) s
set_option maxHeartbeats 400000 in
/-- Macro. -/
theorem cMacro (s : ByteArray) (K : Nat → Prop) (v : Value) (ls : List Ln) (hs : s.size ≤ maxLen) (h : StAt U F R w g bm L E) (hv : LnsAt K w v ls) (hK : ∀ k, K k → k < w.heap.size) :
    Calls Tryz.prog 69 #[.pointer (some ⟨g, 0, none⟩), .string s, v] w fun e w' => e = .returned (.int .i64 (mcE L s ls)) ∧ PutEnd (mcE L s ls) U F g bm w w' L E s (.mac ls) := by
  have HV := Lib.hid (cLns K v ls w hv hK)
  have HC := Lib.hid (fun (w1 : World) (hb : Below w.heap.size w w1) => cCheck (lnsB ls) s hs g bm w1 (h.below hb).c0)
  by_cases hc : chk (lnsB ls) s = 0
  · obtain ⟨h1, h2⟩ := chk_0 hc
    rw [hc] at HC
    rw [h1] at HV HC
    by_cases hz : ls.length ≤ 2000
    · have e1 : mcE L s ls = putE L s := by unfold mcE; rw [if_pos hc, if_neg (by omega)]
      rw [e1]
      have HCp := Lib.hid (fun (w1 : World) (hb : Below w.heap.size w w1) => cCopyL K v ls w1 (hv.stay (Kept.of_below hb hK) (fun _ h => h)) (fun k hk => Nat.lt_of_lt_of_le (hK k hk) hb.size) (by omega))
      have HP := Lib.hid (fun (w1 w2 : World) (v' : Value) hb1 hb2 hcp => cPutM (w := w) s v' ls hs w1 w2 h hb1 hb2 hcp hz h2)
      obtain ⟨A, cap, rfl, hn1, hn2, _⟩ := hv
      clear e1 hc h1 h2 h hK
      generalize putE L s = pe at HP ⊢
      go_enter Tryz.func69, Tryz.ntmps69
      go_wp2_with (first
        | (go_at_call 79; refine HV.out.mono ?_; rintro e w1 ⟨rfl, hb1⟩)
        | (go_at_call 78; refine (HC.out _ hb1).mono ?_; rintro e w1' ⟨rfl, rfl⟩)
        | (go_at_call 81; refine (HCp.out _ hb1).mono ?_; rintro e w2 ⟨A2, c2, rfl, hcp, hb2⟩)
        | (go_at_call 80; refine (HP.out _ _ _ hb1 hb2 hcp).mono ?_; rintro e w3 ⟨rfl, hp⟩))
      go_ret
      exact ⟨rfl, hp⟩
    · have e1 : mcE L s ls = 2 := by unfold mcE; rw [if_pos hc, if_pos (by omega)]
      rw [e1]
      obtain ⟨A, cap, rfl, hn1, hn2, _⟩ := hv
      unfold maxLen at hn2
      clear e1 hc h1 h2 h hK
      have hzi : (2000 : Int) < (ls.length : Nat) := by omega
      go_enter Tryz.func69, Tryz.ntmps69
      go_wp2_with (first
        | (go_at_call 79; refine HV.out.mono ?_; rintro e w1 ⟨rfl, hb1⟩)
        | (go_at_call 78; refine (HC.out _ hb1).mono ?_; rintro e w1' ⟨rfl, rfl⟩))
      go_ret
      exact ⟨rfl, fun _ => hb1, fun h => by cases h⟩
  · have e1 : mcE L s ls = chk (lnsB ls) s := by unfold mcE; rw [if_neg hc]
    rw [e1]
    clear e1 h hv hK
    generalize lnsB ls = b at HV HC hc ⊢
    generalize chk b s = c at HC hc ⊢
    have hB : (c != 0) = true := by simpa using hc
    go_enter Tryz.func69, Tryz.ntmps69
    go_wp2_with (first
      | (go_at_call 79; refine HV.out.mono ?_; rintro e w1 ⟨rfl, hb1⟩)
      | (go_at_call 78; refine (HC.out _ hb1).mono ?_; rintro e w1' ⟨rfl, rfl⟩))
    go_ret
    exact ⟨rfl, fun _ => hb1, fun h => absurd h hc⟩
end
end Go.Proofs.YtpgkhhchpojlaaaGreatDoor.Sto
