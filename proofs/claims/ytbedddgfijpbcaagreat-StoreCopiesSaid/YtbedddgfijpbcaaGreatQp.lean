/- Walks: copies of boxes and of lines. -/
import Derived.Test.YtbedddgfijpbcaaGreatQo
namespace Go.Proofs.YtbedddgfijpbcaaGreat
open Go.RowKit Go.Maps Go.WideMaps

theorem cell_set {w : World} {g o : Nat} {t : TypeId} {cs : Array Value} (hb : Blk w g t cs) (x : Value) {o' : Nat} (h : o' ≠ o) : (w.setCell ⟨g, o, none⟩ x).cell? ⟨g, o', none⟩ = w.cell? ⟨g, o', none⟩ := by
  rw [(blk_set hb x).cell, hb.cell, Array.getElem?_setIfInBounds]
  rw [if_neg (fun e => h e.symm)]
theorem cell_set_at {w : World} {g o : Nat} {t : TypeId} {cs : Array Value} (hb : Blk w g t cs) (x : Value) (h : o < cs.size) : (w.setCell ⟨g, o, none⟩ x).cell? ⟨g, o, none⟩ = some x := by
  rw [(blk_set hb x).cell, Array.getElem?_setIfInBounds, if_pos rfl, if_pos h]
/-- Blocks from b on, but for g. -/
def Kn (b g : Nat) (w : World) (k : Nat) : Prop := b ≤ k ∧ k ≠ g ∧ k < w.heap.size
/-- Boxes whose numbers are copied up to the i-th. -/
def RCb (K : Nat → Prop) (b n cap : Nat) (A : Option Addr) (bs : List Bx) (w : World) (v9 : Value) (wr : World) : Prop :=
  ∃ i : Nat, i ≤ n ∧ v9 = .int .i64 i ∧ Below b w wr ∧ b ≤ wr.heap.size ∧ (0 < n → ∃ g cs, A = some ⟨g, 0, none⟩ ∧ b ≤ g ∧ Blk wr g 97 cs ∧ cs.size = cap * 7 ∧ ∀ (j : Nat) x, bs[j]? = some x → (j < i → bxR (Kn b g wr) wr g (j * 7) x) ∧ (i ≤ j → bxR K wr g (j * 7) x))
theorem RCb.step {K : Nat → Prop} {b cap i g : Nat} {bs : List Bx} {w wr w1 : World} {cs : Array Value} {x : Bx} {v : Value} (hK : ∀ k, K k → k < b) (hbg : b ≤ g) (hB : Below b w wr) (hbw : b ≤ wr.heap.size) (hb : Blk wr g 97 cs) (hcs : cs.size = cap * 7) (hi : bs[i]? = some x) (hic : i < cap)
    (hr : ∀ (j : Nat) x, bs[j]? = some x → (j < i → bxR (Kn b g wr) wr g (j * 7) x) ∧ (i ≤ j → bxR K wr g (j * 7) x)) (hb1 : Below wr.heap.size wr w1) (hv : NsAt (fun k => wr.heap.size ≤ k ∧ k < w1.heap.size) w1 v x.n) :
    Below b w (w1.setCell ⟨g, i * 7 + 6, none⟩ v) ∧ b ≤ (w1.setCell ⟨g, i * 7 + 6, none⟩ v).heap.size ∧ Blk (w1.setCell ⟨g, i * 7 + 6, none⟩ v) g 97 (cs.setIfInBounds (i * 7 + 6) v) ∧ (cs.setIfInBounds (i * 7 + 6) v).size = cap * 7 ∧
      ∀ (j : Nat) x, bs[j]? = some x → (j < i + 1 → bxR (Kn b g (w1.setCell ⟨g, i * 7 + 6, none⟩ v)) (w1.setCell ⟨g, i * 7 + 6, none⟩ v) g (j * 7) x) ∧ (i + 1 ≤ j → bxR K (w1.setCell ⟨g, i * 7 + 6, none⟩ v) g (j * 7) x) := by
  have hg1 : Blk w1 g 97 cs := (hb1.block g hb.lt).trans hb
  have hT := turn_set w1 g (i * 7 + 6) v
  have hTw : Turn (· = g) wr (w1.setCell ⟨g, i * 7 + 6, none⟩ v) := (Turn.of_below hb1 : Turn (· = g) wr w1).trans hT (fun _ _ h => h)
  have hsz := hTw.size
  have hs1 := hb1.size
  have hs2 := hT.size
  have hin : i * 7 + 6 < cs.size := by rw [hcs]; omega
  have hcell : ∀ o, o ≠ i * 7 + 6 → (w1.setCell ⟨g, i * 7 + 6, none⟩ v).cell? ⟨g, o, none⟩ = wr.cell? ⟨g, o, none⟩ := fun o ho => (cell_set hg1 v ho).trans (cell_same (p := ⟨g, o, none⟩) (hb1.block g hb.lt))
  refine ⟨Turn.below hB hTw hbw (fun k e => by rw [e]; exact hbg), Nat.le_trans hbw hsz, blk_set hg1 v, by rw [Array.size_setIfInBounds, hcs], fun j y hj => ⟨fun h => ?_, fun h => ?_⟩⟩
  · by_cases e : j = i
    · subst e
      rw [hi] at hj
      injection hj with hj
      subst hj
      have h0 := (hr j x hi).2 (Nat.le_refl _)
      refine ⟨(hcell _ (by omega)).trans h0.c0, (hcell _ (by omega)).trans h0.c1, (hcell _ (by omega)).trans h0.c2, (hcell _ (by omega)).trans h0.c3, (hcell _ (by omega)).trans h0.c4, (hcell _ (by omega)).trans h0.c5, ⟨v, cell_set_at hg1 v hin, ?_⟩, h0.s6⟩
      have hgl := hb.lt
      exact hv.stay (fun k hk hkl => hT.block k hkl (fun e => by omega)) (fun k hk => ⟨by omega, by omega, by omega⟩)
    · have h0 := (hr j y hj).1 (by omega)
      exact h0.moved (fun k hk => hcell _ (by omega)) (Kept.of_turn hTw (fun k hk e => hk.2.1 e)) (fun k hk => ⟨hk.1, hk.2.1, Nat.lt_of_lt_of_le hk.2.2 hsz⟩)
  · have h0 := (hr j y hj).2 (by omega)
    exact h0.moved (fun k hk => hcell _ (by omega)) (Kept.of_turn hTw (fun k hk e => by have := hK k hk; omega)) (fun _ h => h)
set_option maxHeartbeats 400000 in
/-- copyBoxes. -/
theorem cCopyB (K : Nat → Prop) (v : Value) (bs : List Bx) (w : World) (h : BxsAt K w v bs) (hK : ∀ k, K k → k < w.heap.size) (hz : bs.length ≤ 1599289640401) :
    Calls Tryz.prog 71 #[v] w fun e w' => ∃ A c, e = .returned (.slice A bs.length c) ∧ BxsAt (fun k => w.heap.size ≤ k ∧ k < w'.heap.size) w' (.slice A bs.length c) bs ∧ Below w.heap.size w w' := by
  have HC := Lib.hid (cCloneB K v bs w h hz)
  have hs6 : ∀ (i : Nat) x, bs[i]? = some x → x.n.length * 8 ≤ 140737488355328 := fun i x hx => by
    obtain ⟨A, cap, rfl, h1, h2, h3⟩ := h
    have hi := (List.getElem?_eq_some_iff.1 hx).1
    obtain ⟨g, off, _, _, hr⟩ := h3 (by omega)
    exact (hr i x hx).s6
  have HS := Lib.hid hs6
  have HK := Lib.hid hK
  clear h hs6 hK
  go_enter Tryz.func71, Tryz.ntmps71
  go_wp2_with (go_at_call 82; refine HC.out.mono ?_; rintro e w1 ⟨v1, rfl, ⟨A, cap, rfl, hn, hm, hcl⟩, hb1⟩)
  have HCl := Lib.hid hcl
  have HB1 := Lib.hid hb1
  clear hcl hb1
  go_loopw [9] (fun v9 wr => RCb K w.heap.size bs.length cap A bs w v9 wr) (fun v9 _ => bs.length - (intOf v9).toNat)
  case atStart =>
    refine ⟨0, Nat.zero_le _, rfl, HB1.out, HB1.out.size, fun h0 => ?_⟩
    obtain ⟨g, cs, e, hbg, hb, hcs, hr⟩ := HCl.out (by omega)
    exact ⟨g, cs, e, hbg, hb, hcs, fun j x hj => ⟨fun h => absurd h (Nat.not_lt_zero _), fun _ => hr j x hj⟩⟩
  case round =>
    obtain ⟨i, hi, rfl, hB, hbw, hrow⟩ := hrel
    have HRow := Lib.hid hrow
    clear hrow
    by_cases hlt : i < bs.length
    · obtain ⟨g, cs, rfl, hbg, hb, hcs, hr⟩ := HRow.out (by omega)
      have hx : bs[i]? = some bs[i] := List.getElem?_eq_getElem hlt
      have h0 := (hr i _ hx).2 (Nat.le_refl _)
      obtain ⟨v6, c6, hns⟩ := h0.c6
      have hz6 := HS.out i _ hx
      have HN := Lib.hid (cCloneN K v6 bs[i].n wr hns hz6)
      have hf6 := fun (w2 : World) (hb2 : Below wr.heap.size wr w2) => (show w2.frozen? ⟨g, i * 7 + 6, none⟩ = false from Blk.frozen ((hb2.block g hb.lt).trans hb : Blk w2 g 97 cs) _)
      have hc6 := fun (w2 : World) (hb2 : Below wr.heap.size wr w2) => (show w2.cell? ⟨g, i * 7 + 6, none⟩ = some v6 from (cell_same (p := ⟨g, i * 7 + 6, none⟩) (hb2.block g hb.lt)).trans c6)
      have HStep := Lib.hid (fun (w2 : World) (v : Value) hb2 hv => RCb.step (v := v) (w1 := w2) HK.out hbg hB hbw hb hcs hx (by omega) hr hb2 hv)
      have HF6 := Lib.hid hf6
      have HC6 := Lib.hid hc6
      clear h0 hns hz6 hr hf6 hc6
      generalize bs[i] = x at *
      go_wp2_with (go_at_call 83; refine HN.out.mono ?_; rintro e w2 ⟨v2, rfl, hns2, ⟨A2, n2, c2, rfl⟩, hb2⟩; have f6 := HF6.out _ hb2; have d6 := HC6.out _ hb2)
      go_roundw
      case rel =>
        obtain ⟨q1, q2, q3, q4, q5⟩ := HStep.out _ _ hb2 hns2
        exact ⟨i + 1, by omega, by go_num, q1, q2, fun _ => ⟨g, _, rfl, hbg, q3, q4, q5⟩⟩
      case measure => simp [intOf]; omega
    · go_wp2
      go_ret
      refine ⟨A, cap, rfl, ⟨A, cap, rfl, hn, hm, fun h0 => ?_⟩, hB⟩
      obtain ⟨g, cs, e, hbg, hb, hcs, hr⟩ := HRow.out (by omega)
      refine ⟨g, 0, e, ⟨hbg, hb.lt⟩, fun j x hj => ?_⟩
      have hjl := (List.getElem?_eq_some_iff.1 hj).1
      have := (hr j x hj).1 (by omega)
      rw [Nat.zero_add]
      exact this.moved (fun _ _ => rfl) (fun _ _ _ => rfl) (fun k hk => ⟨hk.1, hk.2.2⟩)
end Go.Proofs.YtbedddgfijpbcaaGreat
