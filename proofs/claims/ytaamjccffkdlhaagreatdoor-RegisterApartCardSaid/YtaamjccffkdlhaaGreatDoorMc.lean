/- Walks: the document's Has, get. -/
import Derived.Test.YtaamjccffkdlhaaGreatDoorMa
import Derived.Test.YtaamjccffkdlhaaGreatDoorKb
namespace Go.Proofs.YtaamjccffkdlhaaGreatDoor
open Go.RowKit Go.Maps Go.WideMaps

theorem own_turn {b n size : Nat} {t : TypeId} {v : Value} {xs : List Value} {w w' : World} {S : Nat → Prop} (h : w.ownsRow b t size v n xs) (hT : Turn S w w') (hn : ∀ g, v.ownBlock = some g → ¬ S g) : w'.ownsRow b t size v n xs := by
  refine ⟨h.1, ?_⟩
  rcases h.2 with h | ⟨g, cap, cur, rfl, hb, hh, hr⟩
  · exact .inl h
  · have hlt : g < w.heap.size := by
      rcases Nat.lt_or_ge g w.heap.size with h | h
      · exact h
      · rw [Array.getElem?_eq_none h] at hh; cases hh
    exact .inr ⟨g, cap, cur, rfl, hb, (hT.block g hlt (hn g rfl)).trans hh, hr⟩
theorem RfAt.turn {S : Nat → Prop} {b : Nat} {w w' : World} {x : Nat} {v : Value} {L : List Ent} (h : RfAt b w x v L) (hT : Turn S w w') (h1 : ¬ S x) (h2 : ∀ g, v.ownBlock = some g → ¬ S g) : RfAt b w' x v L :=
  ⟨hT.blk h.blk h1, own_turn h.own hT h2⟩
theorem RfAt.below {b : Nat} {w w' : World} {x : Nat} {v : Value} {L : List Ent} (h : RfAt b w x v L) (hb : Below w.heap.size w w') : RfAt b w' x v L := h.turn (S := fun _ => False) (Turn.of_below hb) id (fun _ _ => id)
theorem Blk.set_ {w : World} {g : Nat} {t : TypeId} {cs : Array Value} (h : Blk w g t cs) (i : Nat) (u : Value) : Blk (w.setCell ⟨g, i, none⟩ u) g t (cs.setIfInBounds i u) := by
  unfold Blk at h ⊢
  simp [World.setCell, Array.getElem?_modify, h]
/-- A register as a value. -/
def rVal (s : ByteArray) (r : Reg) : Value := .agg #[.string s, .int .i64 r.v, .int .i64 r.s, .string r.f]
/-- Has, of the document's book. -/
theorem nHas (s : ByteArray) (b x : Nat) (v : Value) (L : List Ent) (hl : L.length ≤ 500) (w : World) (h : RfAt b w x v L) :
    Calls Tryz.prog 53 #[.pointer (some ⟨x, 0, none⟩), .string s] w fun e w' => e = .returned (.bool (hasB L s)) ∧ Below w.heap.size w w' := by
  have HA := Lib.hid (cAt s b x v L hl w h)
  clear h
  go_enter Tryz.func53, Tryz.ntmps53
  go_wp2_with (go_at_call 54; refine HA.out.mono ?_; rintro e w1 ⟨rfl, hb1⟩)
  go_ret
  exact ⟨rfl, hb1⟩
theorem has_at {L : List Ent} {s : ByteArray} (h : hasB L s = true) : L[idx L s]? = some (s, getR L s) := by
  unfold hasB at h
  cases he : L[idx L s]? with
  | none => rw [he] at h; cases h
  | some p =>
    rw [he] at h
    have e : p.1 = s := by simpa using h
    unfold getR
    rw [he]
    simp only
    rw [if_pos e, ← e]
theorem get_no {L : List Ent} {s : ByteArray} (h : hasB L s = false) : getR L s = zeroReg := get_miss h
/-- get, of the document's book. -/
theorem nGet (s : ByteArray) (b x : Nat) (v : Value) (L : List Ent) (hl : L.length ≤ 500) (w : World) (h : RfAt b w x v L) :
    Calls Tryz.prog 50 #[.pointer (some ⟨x, 0, none⟩), .string s] w fun e w' => e = .returned (rVal s (getR L s)) ∧ Below w.heap.size w w' := by
  have hB0 := (Below.refl w.heap.size w).alloc (Nat.le_refl _) (.cells #[.string ⟨#[]⟩, .int .i64 0, .int .i64 0, .string ⟨#[]⟩] 75)
  have h1 := h.below hB0
  have HA := Lib.hid (cAt s b x v L hl _ h1)
  have HB0 := Lib.hid hB0
  have HH := Lib.hid h1
  clear h hB0
  obtain ⟨A, cap, rfl, hcap, hA⟩ := h1.form
  cases hh : hasB L s
  · rw [hh] at HA
    rw [get_no hh]
    clear h1 hA hh
    go_enter Tryz.func50, Tryz.ntmps50
    go_wp2_with (go_at_call 54; refine HA.out.mono ?_; rintro e w1 ⟨rfl, hb1⟩; have hz := Blk.new w 75 #[.string ⟨#[]⟩, .int .i64 0, .int .i64 0, .string ⟨#[]⟩]; have hz1 := hz.below hb1 (by simp); have d0 := hz1.cell 0; have d1 := hz1.cell 1; have d2 := hz1.cell 2; have d3 := hz1.cell 3; have f0 := hz1.frozen 0; have f1 := hz1.frozen 1; have f2 := hz1.frozen 2; have f3 := hz1.frozen 3; have HZ1 := Lib.hid hz1; clear hz hz1; simp only [List.getElem?_toArray, List.getElem?_cons_zero, List.getElem?_cons_succ] at d0 d1 d2 d3)
    have hz4 := (((HZ1.out.set_ 0 (.string s)).set_ 1 (.int .i64 0)).set_ 2 (.int .i64 0)).set_ 3 (.string ⟨#[48]⟩)
    have e0 := hz4.cell 0
    have e1 := hz4.cell 1
    have e2 := hz4.cell 2
    have e3 := hz4.cell 3
    clear d0 d1 d2 d3 f0 f1 f2 f3
    simp only [List.setIfInBounds_toArray, List.set_cons_zero, List.set_cons_succ, List.getElem?_toArray, List.getElem?_cons_zero, List.getElem?_cons_succ] at e0 e1 e2 e3
    have hb2 : Below w.heap.size w w1 := HB0.out.trans (hb1.mono (by simp))
    exact bodyPost_ret (v := rVal s zeroReg) (by simp [results, Tryz.results50, go_sem, rVal, zeroReg, e0, e1, e2, e3]) rfl ⟨rfl, (((hb2.setCell (by simp) _).setCell (by simp) _).setCell (by simp) _).setCell (by simp) _⟩
  · have hat := has_at hh
    have hlt : idx L s < L.length := (List.getElem?_eq_some_iff.1 hat).1
    obtain ⟨g, rfl⟩ := hA (by omega)
    rw [hh] at HA
    clear h1 hA hh
    have HAT := Lib.hid hat
    clear hat
    go_enter Tryz.func50, Tryz.ntmps50
    go_wp2_with (go_at_call 54; refine HA.out.mono ?_; rintro e w1 ⟨rfl, hb1⟩; have hz := Blk.new w 75 #[.string ⟨#[]⟩, .int .i64 0, .int .i64 0, .string ⟨#[]⟩]; have hz1 := hz.below hb1 (by simp); have d0 := hz1.cell 0; have d1 := hz1.cell 1; have d2 := hz1.cell 2; have d3 := hz1.cell 3; have f0 := hz1.frozen 0; have f1 := hz1.frozen 1; have f2 := hz1.frozen 2; have f3 := hz1.frozen 3; have HZ1 := Lib.hid hz1; clear hz hz1; simp only [List.getElem?_toArray, List.getElem?_cons_zero, List.getElem?_cons_succ] at d0 d1 d2 d3; have hr1 := HH.out.below hb1; have c0 := hr1.c0; have c10 := hr1.cellAt HAT.out 0 (by omega); have c11 := hr1.cellAt HAT.out 1 (by omega); have c12 := hr1.cellAt HAT.out 2 (by omega); have c13 := hr1.cellAt HAT.out 3 (by omega); have HR1 := Lib.hid hr1; clear hr1; simp only [regCells, List.getElem?_cons_zero, List.getElem?_cons_succ, Nat.add_zero] at c10 c11 c12 c13)
    have hz4 := (((HZ1.out.set_ 0 (.string s)).set_ 1 (.int .i64 (getR L s).v)).set_ 2 (.int .i64 (getR L s).s)).set_ 3 (.string (getR L s).f)
    have e0 := hz4.cell 0
    have e1 := hz4.cell 1
    have e2 := hz4.cell 2
    have e3 := hz4.cell 3
    clear d0 d1 d2 d3 f0 f1 f2 f3
    simp only [List.setIfInBounds_toArray, List.set_cons_zero, List.set_cons_succ, List.getElem?_toArray, List.getElem?_cons_zero, List.getElem?_cons_succ] at e0 e1 e2 e3
    have hb2 : Below w.heap.size w w1 := HB0.out.trans (hb1.mono (by simp))
    exact bodyPost_ret (v := rVal s (getR L s)) (by simp [results, Tryz.results50, go_sem, rVal, e0, e1, e2, e3]) rfl ⟨rfl, (((hb2.setCell (by simp) _).setCell (by simp) _).setCell (by simp) _).setCell (by simp) _⟩
end Go.Proofs.YtaamjccffkdlhaaGreatDoor
