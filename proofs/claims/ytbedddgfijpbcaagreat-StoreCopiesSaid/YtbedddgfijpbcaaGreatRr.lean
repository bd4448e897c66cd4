/- append of lines that are read. -/
import Derived.Test.YtbedddgfijpbcaaGreatRp
namespace Go.Proofs.YtbedddgfijpbcaaGreat
open Go.RowKit

set_option maxRecDepth 100000 in
/-- append, of lines that are read, onto lines that are owned. -/
theorem runAppL (w : World) (ty : TypeId) {r : Option Nat} {F F2 : Nat → Prop} {v v2 : Value} {ls ls2 : List Ln} (h : OwnLns r F w v ls) (h2 : LnsAt F2 w v2 ls2) (hsum : ls.length + ls2.length ≤ 1000000) (hr : ∀ i, r = some i → ¬ F i ∧ ¬ F2 i)
    (hF : ∀ i, F i ∨ F2 i → i < w.heap.size) :
    ∃ A' c' w' r', (Builtin.append_ #[31, 31] ty #[v, v2]).run Tryz.prog w = .ok (.slice A' (ls.length + ls2.length) c') w' ∧ OwnLns r' (fun i => F i ∨ F2 i) w' (.slice A' (ls.length + ls2.length) c') (ls ++ ls2) ∧ Turn (fun i => r = some i) w w' ∧
      ∀ i, r' = some i → (r = some i ∨ w.heap.size ≤ i) ∧ i < w'.heap.size ∧ ¬ (F i ∨ F2 i) := by
  obtain ⟨i0, hi0, hz0, hz1, hz2⟩ := info_parts line_info
  have h' := h
  obtain ⟨A, c, rfl, a1, a2, a3, a4⟩ := h
  obtain ⟨A2, c2, rfl, b1, b2, b4⟩ := h2
  have hlen : (ls ++ ls2).length = ls.length + ls2.length := List.length_append
  by_cases hm : ls2.length = 0
  · have e2 : ls2 = [] := List.length_eq_zero_iff.1 hm
    subst e2
    have hrun := run_append_zero (P := Tryz.prog) w 31 ty _ i0 Tryz.underlying31 hi0 A ls.length c a1 A2 c2
    refine ⟨A, c, w, r, hrun, ?_, Turn.refl _ w, fun i hi => ⟨.inl hi, ?_, ?_⟩⟩
    · rw [List.append_nil]
      exact h'.stay (fun _ _ _ => rfl) (fun _ h => .inl h)
    · by_cases h0 : c = 0
      · rw [a3 h0] at hi; cases hi
      · obtain ⟨g, off, cs, _, er, hb, _⟩ := a4 (by omega)
        rw [er] at hi
        injection hi with hi
        rw [← hi]; exact hb.lt
    · rintro (q | q)
      · exact (hr i hi).1 q
      · exact (hr i hi).2 q
  · obtain ⟨g2, off2, rfl, hk2, hl2⟩ := b4 (by omega)
    obtain ⟨news, n1, n2, n3⟩ := lnR.cells5 hl2
    have hnews : ∀ (j : Nat) u, news[j]? = some u → w.cell? ((⟨g2, off2, none⟩ : Addr).add j) = some u := fun j u hj => by rw [Addr.add_lit]; exact n2 j u hj
    by_cases hroom : ls.length + ls2.length ≤ c
    · have hc0 : c ≠ 0 := fun e => hm (Nat.le_zero.1 (Nat.le_trans (Nat.le_add_left _ ls.length) (e ▸ hroom)))
      obtain ⟨g, off, cs, rfl, er, hb, hs, hl⟩ := a4 (by omega)
      have hin : ∀ j, j < news.length → off + ls.length * 5 + j < cs.size := fun j hj => by
        have : (ls.length + ls2.length) * 5 ≤ c * 5 := Nat.mul_le_mul_right _ hroom
        omega
      have hsome : ∀ j, j < news.length → (w.cell? ⟨g, off + ls.length * 5 + j, none⟩).isSome = true := fun j hj => by
        rw [hb.cell, Array.getElem?_eq_getElem (hin j hj)]; rfl
      have hrun := run_append_room_cells (P := Tryz.prog) w 31 ty _ i0 Tryz.underlying31 hi0 g off ls.length c ⟨g2, off2, none⟩ ls2.length c2 news (by rw [hz1]; exact n1) hnews n3 hroom (by rw [hz1]; exact hsome) (by rw [hz1]; exact fun j _ => hb.frozen _)
      rw [hz1] at hrun
      obtain ⟨cs', hb', hs'⟩ := blk_setCells news (off + ls.length * 5) w cs hb
      have hT := turn_setCells (g := g) news (off + ls.length * 5) w
      have hgF := hr g er
      have hk : Kept (fun i => F i ∨ F2 i) w (w.setCells g (off + ls.length * 5) news) := Kept.of_turn hT (fun i hi e => by
        subst e
        rcases hi with hi | hi
        · exact hgF.1 hi
        · exact hgF.2 hi)
      refine ⟨some ⟨g, off, none⟩, c, w.setCells g (off + ls.length * 5) news, r, hrun, ⟨some ⟨g, off, none⟩, c, by rw [hlen], by rw [hlen]; exact hroom, a2, fun h0 => absurd h0 hc0, fun _ => ⟨g, off, cs', rfl, er, hb', by omega, fun i l hi => ?_⟩⟩, hT.mono (fun i e => by rw [e]; exact er), fun i hi => ⟨.inl hi, ?_, ?_⟩⟩
      · by_cases hil : i < ls.length
        · rw [List.getElem?_append_left hil] at hi
          refine (hl i l hi).moved (fun k hk => ?_) (fun i hi => hk i (.inl hi)) (fun _ h => .inl h)
          exact World.cell?_setCells_out g news (off + ls.length * 5) w ⟨g, off + i * 5 + k, none⟩ (fun _ _ => .inl (by show off + i * 5 + k < _; omega))
        · rw [List.getElem?_append_right (by omega)] at hi
          have hil2 := (List.getElem?_eq_some_iff.1 hi).1
          refine (hl2 _ l hi).moved (fun k hk => ?_) (fun i hi => hk i (.inr hi)) (fun _ h => .inr h)
          have hj : (i - ls.length) * 5 + k < news.length := by omega
          have := World.cell?_setCells_in g news (off + ls.length * 5) w hsome ((i - ls.length) * 5 + k) hj
          rw [show off + i * 5 + k = off + ls.length * 5 + ((i - ls.length) * 5 + k) by omega, this, show off2 + (i - ls.length) * 5 + k = off2 + ((i - ls.length) * 5 + k) by omega]
          exact (n2 _ _ (List.getElem?_eq_getElem hj)).symm
      · rw [er] at hi
        injection hi with hi
        rw [← hi]; exact Nat.lt_of_lt_of_le hb.lt hT.size
      · rintro (q | q)
        · exact (hr i hi).1 q
        · exact (hr i hi).2 q
    · have hold : ∃ olds : List Value, olds.length = ls.length * 5 ∧ (∀ b, A = some b → ∀ (j : Nat) u, olds[j]? = some u → w.cell? (b.add j) = some u) ∧ (∀ (i : Nat) l, ls[i]? = some l → ∃ g o, lnR F w g o l ∧ ∀ k, k < 5 → olds[i * 5 + k]? = w.cell? ⟨g, o + k, none⟩) := by
        by_cases h0 : c = 0
        · have : ls = [] := List.length_eq_zero_iff.1 (by omega)
          subst this
          exact ⟨[], rfl, fun b _ j u h => (by simp at h), fun i l h => (by simp at h)⟩
        · obtain ⟨g, off, cs, rfl, er, hb, hs, hl⟩ := a4 (by omega)
          obtain ⟨olds, o1, o2, o3⟩ := lnR.cells5 hl
          refine ⟨olds, o1, fun b e j u hj => ?_, fun i l hi => ⟨g, off + i * 5, hl i l hi, fun k hk => ?_⟩⟩
          · injection e with e
            rw [← e, Addr.add_lit]; exact o2 j u hj
          · have hil := (List.getElem?_eq_some_iff.1 hi).1
            have hj : i * 5 + k < olds.length := by omega
            rw [List.getElem?_eq_getElem hj, show off + i * 5 + k = off + (i * 5 + k) by omega]
            exact (o2 _ _ (List.getElem?_eq_getElem hj)).symm
      obtain ⟨olds, o1, o2, o3⟩ := hold
      have hgrow : ∃ v' w', (Builtin.append_ #[31, 31] ty #[.slice A ls.length c, .slice (some ⟨g2, off2, none⟩) ls2.length c2]).run Tryz.prog w = .ok v' w' ∧ w'.ownsRow w.heap.size 39 5 v' (ls.length + ls2.length) (olds ++ news) ∧ w.grownBy w' none := by
        cases A with
        | some b => exact run_append_arg_grows (P := Tryz.prog) w 31 ty _ i0 _ 5 64 Tryz.underlying31 hi0 hz0 hz1 hz2 rfl (by omega) b ls.length c olds o1 (o2 b rfl) ⟨g2, off2, none⟩ ls2.length c2 news n1 hnews (by omega) (by unfold maxLen; omega) (by omega)
        | none =>
          have h0 : c = 0 := by
            rcases Nat.eq_zero_or_pos c with h | h
            · exact h
            · obtain ⟨_, _, _, e, _⟩ := a4 h
              cases e
          have hl0 : ls.length = 0 := by omega
          have : ls = [] := List.length_eq_zero_iff.1 hl0
          subst this
          subst h0
          have : olds = [] := List.length_eq_zero_iff.1 (by rw [o1]; rfl)
          subst this
          obtain ⟨v', w', q1, q2, q3, _⟩ := run_append_own (P := Tryz.prog) w w.heap.size 31 ty _ i0 _ 5 64 Tryz.underlying31 hi0 hz0 hz1 hz2 rfl (by omega) (.slice none 0 0) 0 [] (World.ownsRow_nil w _ _ 5) ⟨g2, off2, none⟩ ls2.length c2 news n1 hnews n3 (by unfold maxLen; omega) (by omega) (Nat.le_refl _)
          exact ⟨v', w', q1, q2, q3⟩
      obtain ⟨v', w', hrun, hown, hg⟩ := hgrow
      rcases hown.2 with ⟨_, e0⟩ | ⟨g', cap', cur, rfl, hbg, hg', hn, hm', hsz, _⟩
      · omega
      · have hB : Below w.heap.size w w' := ⟨hg.os, hg.tape, hg.output, hg.size, fun i hi => hg.block i hi (by simp)⟩
        have hcell := fun j hj => hown.cellAt j hj
        have hlt : g' < w'.heap.size := (show Blk w' g' _ cur from hg').lt
        refine ⟨_, cap', w', some g', hrun, ⟨_, cap', by rw [hlen], by rw [hlen]; exact hn, hm', fun h0 => absurd h0 (by omega), fun _ => ⟨g', 0, cur, rfl, rfl, hg', by omega, fun i l hi => ?_⟩⟩, Turn.of_below hB, fun i hi => ?_⟩
        · have hil := (List.getElem?_eq_some_iff.1 hi).1
          rw [hlen] at hil
          by_cases hi2 : i < ls.length
          · rw [List.getElem?_append_left hi2] at hi
            obtain ⟨g0, o0, q1, q2⟩ := o3 i l hi
            refine q1.moved (fun k hk => ?_) (Kept.of_all hB) (fun _ h => .inl h)
            rw [Nat.zero_add, hcell _ (by omega), List.getElem?_append_left (by omega)]
            exact q2 k hk
          · rw [List.getElem?_append_right (by omega)] at hi
            refine (hl2 _ l hi).moved (fun k hk => ?_) (Kept.of_all hB) (fun _ h => .inr h)
            have hj : (i - ls.length) * 5 + k < news.length := by omega
            rw [Nat.zero_add, hcell _ (by omega), List.getElem?_append_right (by omega), o1, show i * 5 + k - ls.length * 5 = (i - ls.length) * 5 + k by omega, List.getElem?_eq_getElem hj, show off2 + (i - ls.length) * 5 + k = off2 + ((i - ls.length) * 5 + k) by omega]
            exact (n2 _ _ (List.getElem?_eq_getElem hj)).symm
        · injection hi with hi
          subst hi
          exact ⟨.inr hbg, hlt, fun h => by have := hF _ h; omega⟩
end Go.Proofs.YtbedddgfijpbcaaGreat
