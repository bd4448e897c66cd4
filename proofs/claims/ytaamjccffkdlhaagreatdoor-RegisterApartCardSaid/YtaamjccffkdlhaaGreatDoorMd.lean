/- Walks: the document's put, where the register is there, and where there is no room. -/
import Derived.Test.YtaamjccffkdlhaaGreatDoorMc
namespace Go.Proofs.YtaamjccffkdlhaaGreatDoor
open Go.RowKit Go.Maps Go.WideMaps

theorem rcs_cons (p : Ent) (t : List Ent) : rcs (p :: t) = .string p.1 :: .int .i64 p.2.v :: .int .i64 p.2.s :: .string p.2.f :: rcs t := rfl
theorem rcs_set (s : ByteArray) (r : Reg) : ∀ (L : List Ent) (k : Nat), k < L.length → rcs (L.set k (s, r)) = ((((rcs L).set (k * 4) (.string s)).set (k * 4 + 1) (.int .i64 r.v)).set (k * 4 + 2) (.int .i64 r.s)).set (k * 4 + 3) (.string r.f)
  | [], k, h => by simp at h
  | p :: t, 0, _ => by simp [rcs_cons]
  | p :: t, k + 1, h => by
    have ih := rcs_set s r t k (by simpa using h)
    rw [List.set_cons_succ, rcs_cons, rcs_cons, ih, show (k + 1) * 4 = k * 4 + 4 by omega]
    rfl
/-- How a book of the document's is changed. -/
def RfTo (b : Nat) (w : World) (x : Nat) (v : Value) (w' : World) (L : List Ent) : Prop :=
  ∃ v', RfAt b w' x v' L ∧ (∀ g, v'.ownBlock = some g → v.ownBlock = some g ∨ w.heap.size ≤ g) ∧ Turn (fun i => i = x ∨ v.ownBlock = some i) w w'
theorem RfTo.stay {b : Nat} {w w' : World} {x : Nat} {v : Value} {L : List Ent} (h : RfAt b w x v L) (hb : Below w.heap.size w w') : RfTo b w x v w' L :=
  ⟨v, h.below hb, fun _ h => .inl h, Turn.of_below hb⟩
theorem RfTo.then_ {b : Nat} {w w1 w' : World} {x : Nat} {v : Value} {L : List Ent} (hb : Below w.heap.size w w1) (_hx : x < w.heap.size) (h : RfTo b w1 x v w' L) : RfTo b w x v w' L := by
  obtain ⟨v', h1, h2, h3⟩ := h
  refine ⟨v', h1, fun g hg => ?_, (Turn.of_below hb : Turn (fun i => i = x ∨ v.ownBlock = some i) w w1).trans h3 (fun _ _ h => h)⟩
  rcases h2 g hg with h | h
  · exact .inl h
  · exact .inr (Nat.le_trans hb.size h)
theorem put_has {L : List Ent} {s : ByteArray} {r : Reg} (h : hasB L s = true) : putR L s r = L.set (idx L s) (s, r) := by unfold putR; rw [h]; rfl
theorem put_no {L : List Ent} {s : ByteArray} {r : Reg} (h : hasB L s = false) : putR L s r = L.take (idx L s) ++ (s, r) :: L.drop (idx L s) := by unfold putR; rw [h]; rfl
theorem RfAt.set4 {b : Nat} {w : World} {x g cap : Nat} {L : List Ent} (h : RfAt b w x (.slice (some ⟨g, 0, none⟩) L.length cap) L) (s : ByteArray) (r : Reg) {k : Nat} (hk : k < L.length) :
    RfAt b ((((w.setCell ⟨g, k * 4, none⟩ (.string s)).setCell ⟨g, k * 4 + 1, none⟩ (.int .i64 r.v)).setCell ⟨g, k * 4 + 2, none⟩ (.int .i64 r.s)).setCell ⟨g, k * 4 + 3, none⟩ (.string r.f)) x (.slice (some ⟨g, 0, none⟩) L.length cap) (L.set k (s, r)) ∧
      w.grownBy ((((w.setCell ⟨g, k * 4, none⟩ (.string s)).setCell ⟨g, k * 4 + 1, none⟩ (.int .i64 r.v)).setCell ⟨g, k * 4 + 2, none⟩ (.int .i64 r.s)).setCell ⟨g, k * 4 + 3, none⟩ (.string r.f)) (some g) := by
  have hne : x ≠ g := by
    rcases h.own.2 with ⟨h', _⟩ | ⟨g', cap', cur, h', _, hg, _⟩
    · simp at h'
    · simp only [Value.slice.injEq, Option.some.injEq, Addr.mk.injEq, and_true, true_and] at h'
      obtain ⟨rfl, rfl⟩ := h'
      exact blk_ne (t' := 75) (cs' := cur) h.blk hg (by decide)
  obtain ⟨o1, g1⟩ := h.own.stored (k * 4) (.string s)
  obtain ⟨o2, g2⟩ := o1.stored (k * 4 + 1) (.int .i64 r.v)
  obtain ⟨o3, g3⟩ := o2.stored (k * 4 + 2) (.int .i64 r.s)
  obtain ⟨o4, g4⟩ := o3.stored (k * 4 + 3) (.string r.f)
  have hg := ((g1.trans g2).trans g3).trans g4
  refine ⟨⟨h.blk.grown hg (fun e => hne (by injection e)), ?_⟩, hg⟩
  rw [rcs_set s r L k hk, List.length_set]
  exact o4
set_option maxRecDepth 100000 in
set_option maxHeartbeats 400000 in
/-- put, where the register is there. -/
theorem nPutHas (s : ByteArray) (r : Reg) (b x : Nat) (v : Value) (L : List Ent) (hl : L.length ≤ 500) (hh : hasB L s = true) (w : World) (h : RfAt b w x v L) :
    Calls Tryz.prog 51 #[.pointer (some ⟨x, 0, none⟩), rVal s r] w fun e w' => e = .returned (.int .i64 0) ∧ RfTo b w x v w' (putR L s r) := by
  have hB0 := (Below.refl w.heap.size w).alloc (Nat.le_refl _) (.cells #[.string s, .int .i64 r.v, .int .i64 r.s, .string r.f] 75)
  have h1 := h.below hB0
  have hxl := h.blk.lt
  have HA := Lib.hid (cAt s b x v L hl _ h1)
  have HB0 := Lib.hid hB0
  have HH := Lib.hid h1
  clear h hB0
  obtain ⟨A, cap, rfl, hcap, hA⟩ := h1.form
  have hat := has_at hh
  have hlt : idx L s < L.length := (List.getElem?_eq_some_iff.1 hat).1
  obtain ⟨g, rfl⟩ := hA (by omega)
  rw [hh] at HA
  rw [put_has hh]
  clear h1 hA hh
  have HAT := Lib.hid hat
  clear hat
  unfold rVal
  go_enter Tryz.func51, Tryz.ntmps51
  go_wp2_with (go_at_call 54; refine HA.out.mono ?_; rintro e w1 ⟨rfl, hb1⟩)
  have hz := (Blk.new w 75 #[.string s, .int .i64 r.v, .int .i64 r.s, .string r.f]).below hb1 (by simp)
  have d0 := hz.cell 0
  have d1 := hz.cell 1
  have d2 := hz.cell 2
  have d3 := hz.cell 3
  have HZ := Lib.hid hz
  clear hz
  have hr1 := HH.out.below hb1
  have c0 := hr1.c0
  have c10 := hr1.cellAt HAT.out 0 (by omega)
  have c11 := hr1.cellAt HAT.out 1 (by omega)
  have c12 := hr1.cellAt HAT.out 2 (by omega)
  have c13 := hr1.cellAt HAT.out 3 (by omega)
  have f0 := hr1.own.frozenAt (idx L s * 4)
  have f1 := hr1.own.frozenAt (idx L s * 4 + 1)
  have f2 := hr1.own.frozenAt (idx L s * 4 + 2)
  have f3 := hr1.own.frozenAt (idx L s * 4 + 3)
  have HR1 := Lib.hid hr1
  clear hr1
  simp only [regCells, List.getElem?_cons_zero, List.getElem?_cons_succ, Nat.add_zero, List.getElem?_toArray] at c10 c11 c12 c13 d0 d1 d2 d3
  go_still_tail 7, (by kernel_rfl)
  change wpList _ _ _ _ _ w1.drew
  have HD := Lib.hid (HR1.out.below ((Below.refl w1.heap.size w1).drew))
  go_wp2_with fail
  go_ret
  have h4 := HR1.out.set4 s r hlt
  have hb2 : Below w.heap.size w w1 := HB0.out.trans (hb1.mono (by simp))
  have ht := ((Turn.of_below hb2 : Turn (fun i => i = x ∨ (Value.slice (some ⟨g, 0, none⟩) L.length cap).ownBlock = some i) w w1).trans (Turn.of_grown h4.2) (fun i _ e => .inr (by rw [e]; rfl))).trans (S2 := fun _ => False) (Turn.of_below ((Below.refl _ _).drew)) (fun _ _ h => h.elim)
  exact ⟨rfl, _, h4.1.below ((Below.refl _ _).drew), fun g hg => .inl (by simpa using hg), ht⟩
end Go.Proofs.YtaamjccffkdlhaaGreatDoor
