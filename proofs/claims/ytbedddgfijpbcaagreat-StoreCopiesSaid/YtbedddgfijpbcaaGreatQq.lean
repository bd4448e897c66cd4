/- Walk: copies of lines. -/
import Derived.Test.YtbedddgfijpbcaaGreatQp
namespace Go.Proofs.YtbedddgfijpbcaaGreat
open Go.RowKit Go.Maps Go.WideMaps

/-- Lines whose boxes are copied up to the i-th. -/
def RCl (K : Nat → Prop) (b n cap : Nat) (A : Option Addr) (bs : List Ln) (w : World) (v9 : Value) (wr : World) : Prop :=
  ∃ i : Nat, i ≤ n ∧ v9 = .int .i64 i ∧ Below b w wr ∧ b ≤ wr.heap.size ∧ (0 < cap → ∃ g cs, A = some ⟨g, 0, none⟩ ∧ b ≤ g ∧ Blk wr g 39 cs ∧ cs.size = cap * 5 ∧ ∀ (j : Nat) x, bs[j]? = some x → (j < i → lnR (Kn b g wr) wr g (j * 5) x) ∧ (i ≤ j → lnR K wr g (j * 5) x))
theorem RCl.step {K : Nat → Prop} {b cap i g : Nat} {bs : List Ln} {w wr w1 : World} {cs : Array Value} {x : Ln} {v : Value} (hK : ∀ k, K k → k < b) (hbg : b ≤ g) (hB : Below b w wr) (hbw : b ≤ wr.heap.size) (hb : Blk wr g 39 cs) (hcs : cs.size = cap * 5) (hi : bs[i]? = some x) (hic : i < cap)
    (hr : ∀ (j : Nat) x, bs[j]? = some x → (j < i → lnR (Kn b g wr) wr g (j * 5) x) ∧ (i ≤ j → lnR K wr g (j * 5) x)) (hb1 : Below wr.heap.size wr w1) (hv : BxsAt (fun k => wr.heap.size ≤ k ∧ k < w1.heap.size) w1 v x.boxes) :
    Below b w (w1.setCell ⟨g, i * 5 + 4, none⟩ v) ∧ b ≤ (w1.setCell ⟨g, i * 5 + 4, none⟩ v).heap.size ∧ Blk (w1.setCell ⟨g, i * 5 + 4, none⟩ v) g 39 (cs.setIfInBounds (i * 5 + 4) v) ∧ (cs.setIfInBounds (i * 5 + 4) v).size = cap * 5 ∧
      ∀ (j : Nat) x, bs[j]? = some x → (j < i + 1 → lnR (Kn b g (w1.setCell ⟨g, i * 5 + 4, none⟩ v)) (w1.setCell ⟨g, i * 5 + 4, none⟩ v) g (j * 5) x) ∧ (i + 1 ≤ j → lnR K (w1.setCell ⟨g, i * 5 + 4, none⟩ v) g (j * 5) x) := by
  have hg1 : Blk w1 g 39 cs := (hb1.block g hb.lt).trans hb
  have hT := turn_set w1 g (i * 5 + 4) v
  have hTw : Turn (· = g) wr (w1.setCell ⟨g, i * 5 + 4, none⟩ v) := (Turn.of_below hb1 : Turn (· = g) wr w1).trans hT (fun _ _ h => h)
  have hsz := hTw.size
  have hs1 := hb1.size
  have hs2 := hT.size
  have hin : i * 5 + 4 < cs.size := by rw [hcs]; omega
  have hcell : ∀ o, o ≠ i * 5 + 4 → (w1.setCell ⟨g, i * 5 + 4, none⟩ v).cell? ⟨g, o, none⟩ = wr.cell? ⟨g, o, none⟩ := fun o ho => (cell_set hg1 v ho).trans (cell_same (p := ⟨g, o, none⟩) (hb1.block g hb.lt))
  refine ⟨Turn.below hB hTw hbw (fun k e => by rw [e]; exact hbg), Nat.le_trans hbw hsz, blk_set hg1 v, by rw [Array.size_setIfInBounds, hcs], fun j y hj => ⟨fun h => ?_, fun h => ?_⟩⟩
  · by_cases e : j = i
    · subst e
      rw [hi] at hj
      injection hj with hj
      subst hj
      have h0 := (hr j x hi).2 (Nat.le_refl _)
      refine ⟨(hcell _ (by omega)).trans h0.c0, (hcell _ (by omega)).trans h0.c1, (hcell _ (by omega)).trans h0.c2, (hcell _ (by omega)).trans h0.c3, ⟨v, cell_set_at hg1 v hin, ?_⟩, h0.s0, h0.s4⟩
      have hgl := hb.lt
      exact hv.stay (fun k hk hkl => hT.block k hkl (fun e => by omega)) (fun k hk => ⟨by omega, by omega, by omega⟩)
    · have h0 := (hr j y hj).1 (by omega)
      exact h0.moved (fun k hk => hcell _ (by omega)) (Kept.of_turn hTw (fun k hk e => hk.2.1 e)) (fun k hk => ⟨hk.1, hk.2.1, Nat.lt_of_lt_of_le hk.2.2 hsz⟩)
  · have h0 := (hr j y hj).2 (by omega)
    exact h0.moved (fun k hk => hcell _ (by omega)) (Kept.of_turn hTw (fun k hk e => by have := hK k hk; omega)) (fun _ h => h)
/-- What a copy of lines is. -/
def CopyAt (w w' : World) (v : Value) (ls : List Ln) : Prop :=
  ∃ r F, OwnLns r F w' v ls ∧ (∀ k, F k → w.heap.size ≤ k ∧ k < w'.heap.size) ∧ ∀ g, r = some g → w.heap.size ≤ g ∧ g < w'.heap.size ∧ ¬ F g
set_option maxHeartbeats 400000 in
/-- copyLines. -/
theorem cCopyL (K : Nat → Prop) (v : Value) (ls : List Ln) (w : World) (h : LnsAt K w v ls) (hK : ∀ k, K k → k < w.heap.size) (hz : ls.length ≤ 1000000000000) :
    Calls Tryz.prog 37 #[v] w fun e w' => ∃ A c, e = .returned (.slice A ls.length c) ∧ CopyAt w w' (.slice A ls.length c) ls ∧ Below w.heap.size w w' := by
  have HC := Lib.hid (cCloneL K v ls w h hz)
  have HK := Lib.hid hK
  clear h hK
  go_enter Tryz.func37, Tryz.ntmps37
  go_wp2_with (go_at_call 70; refine HC.out.mono ?_; rintro e w1 ⟨v1, rfl, ⟨A, cap, rfl, hn, hm, hcl⟩, hb1⟩)
  have HCl := Lib.hid hcl
  have HB1 := Lib.hid hb1
  clear hcl hb1
  go_loopw [9] (fun v9 wr => RCl K w.heap.size ls.length cap A ls w v9 wr) (fun v9 _ => ls.length - (intOf v9).toNat)
  case atStart =>
    refine ⟨0, Nat.zero_le _, rfl, HB1.out, HB1.out.size, fun h0 => ?_⟩
    obtain ⟨g, cs, e, hbg, hb, hcs, hr⟩ := HCl.out h0
    exact ⟨g, cs, e, hbg, hb, hcs, fun j x hj => ⟨fun h => absurd h (Nat.not_lt_zero _), fun _ => hr j x hj⟩⟩
  case round =>
    obtain ⟨i, hi, rfl, hB, hbw, hrow⟩ := hrel
    have HRow := Lib.hid hrow
    clear hrow
    by_cases hlt : i < ls.length
    · obtain ⟨g, cs, rfl, hbg, hb, hcs, hr⟩ := HRow.out (by omega)
      have hx : ls[i]? = some ls[i] := List.getElem?_eq_getElem hlt
      have h0 := (hr i _ hx).2 (Nat.le_refl _)
      obtain ⟨v6, c6, hns⟩ := h0.c4
      have HN := Lib.hid (cCopyB K v6 ls[i].boxes wr hns (fun k hk => Nat.lt_of_lt_of_le (HK.out k hk) hbw) h0.s4)
      have hf6 := fun (w2 : World) (hb2 : Below wr.heap.size wr w2) => (show w2.frozen? ⟨g, i * 5 + 4, none⟩ = false from Blk.frozen ((hb2.block g hb.lt).trans hb : Blk w2 g 39 cs) _)
      have hc6 := fun (w2 : World) (hb2 : Below wr.heap.size wr w2) => (show w2.cell? ⟨g, i * 5 + 4, none⟩ = some v6 from (cell_same (p := ⟨g, i * 5 + 4, none⟩) (hb2.block g hb.lt)).trans c6)
      have HStep := Lib.hid (fun (w2 : World) (v : Value) hb2 hv => RCl.step (v := v) (w1 := w2) HK.out hbg hB hbw hb hcs hx (by omega) hr hb2 hv)
      have HF6 := Lib.hid hf6
      have HC6 := Lib.hid hc6
      clear h0 hns hr hf6 hc6
      generalize ls[i] = x at *
      go_wp2_with (go_at_call 71; refine HN.out.mono ?_; rintro e w2 ⟨A2, c2, rfl, hns2, hb2⟩; have f6 := HF6.out _ hb2; have d6 := HC6.out _ hb2)
      go_roundw
      case rel =>
        obtain ⟨q1, q2, q3, q4, q5⟩ := HStep.out _ _ hb2 hns2
        exact ⟨i + 1, by omega, by go_num, q1, q2, fun _ => ⟨g, _, rfl, hbg, q3, q4, q5⟩⟩
      case measure => simp [intOf]; omega
    · go_wp2
      go_ret
      refine ⟨A, cap, rfl, ?_, hB⟩
      by_cases h0 : cap = 0
      · exact ⟨none, fun _ => False, ⟨A, cap, rfl, hn, hm, fun _ => rfl, fun h => absurd h (by omega)⟩, fun _ h => h.elim, fun _ h => by cases h⟩
      · obtain ⟨g, cs, e, hbg, hb, hcs, hr⟩ := HRow.out (by omega)
        refine ⟨some g, Kn w.heap.size g wr, ⟨A, cap, rfl, hn, hm, fun h => absurd h h0, fun _ => ⟨g, 0, cs, e, rfl, hb, by omega, fun j x hj => ?_⟩⟩, fun k hk => ⟨hk.1, hk.2.2⟩, fun g' e' => ?_⟩
        · have hjl := (List.getElem?_eq_some_iff.1 hj).1
          have := (hr j x hj).1 (by omega)
          rwa [Nat.zero_add]
        · injection e' with e'
          subst e'
          exact ⟨hbg, hb.lt, fun h => h.2.1 rfl⟩
end Go.Proofs.YtbedddgfijpbcaaGreat
