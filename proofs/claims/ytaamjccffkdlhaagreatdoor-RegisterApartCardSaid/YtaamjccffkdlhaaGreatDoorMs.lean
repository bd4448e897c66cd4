/- A list of deeds that comes in. -/
import Derived.Test.YtaamjccffkdlhaaGreatDoorMp
import Derived.Test.YtaamjccffkdlhaaGreatDoorSa
import Derived.Deep.Slices
namespace Go.Proofs.YtaamjccffkdlhaaGreatDoor
open Go.ChangeShapes Go.WideShapes Go.ChangeAt Go.RowKit Go.Joins Go.Deep

theorem deed_cellsOf : Tryz.prog.cellsOf 32 = 4 := by kernel_rfl
theorem lt_cell {w : World} {p : Addr} {v : Value} (h : w.cell? p = some v) : p.block < w.heap.size := by
  rcases Nat.lt_or_ge p.block w.heap.size with hlt | hge
  · exact hlt
  · unfold World.cell? at h
    rw [Array.getElem?_eq_none hge] at h
    cases h
set_option maxRecDepth 100000 in
theorem deeds_of {H : Type} {enc : TypeId × Value → H} {w : World} {base : Nat} {sp : Nat → Bool} {held : Bool} {r : Reach} {b0 : Nat} {v : Value} {d : DataW H} {p : List MemPlace}
    (hv : Value.okWide Tryz.prog w r b0 22 v) (h : DataW.Trod enc Tryz.prog w base sp held 22 v d p) : ∃ A n c, v = .slice A n c ∧ DeedsAt w A n := by
  obtain ⟨a, len, cap, rfl⟩ := okWide_slice Tryz.underlying22 hv
  refine ⟨a, len, cap, rfl, fun h0 => ?_⟩
  obtain ⟨fuel, hf⟩ := h
  have hcells : (Value.slice a len cap).cells.toList = [.slice a len cap] := rfl
  rw [hcells] at hf
  rcases Go.Deep.open_slice Tryz.underlying22 hf with ⟨hcs, _⟩ | ⟨a', len', cap', m, n, D, Pl, hcs, _, hl, _, hm, _, hi⟩
  · injection hcs with hcs _
    injection hcs with _ e _
    omega
  · injection hcs with hcs _
    injection hcs with e1 e2 e3
    subst e1 e2 e3
    have hall : ∀ k, k < len → ∃ (D m : Int) (s F : ByteArray), s.size ≤ maxLen ∧ F.size ≤ maxLen ∧ w.cell? (a'.add (k * 4)) = some (.int .i64 D) ∧ w.cell? (a'.add (k * 4 + 1)) = some (.string s) ∧
        w.cell? (a'.add (k * 4 + 2)) = some (.string F) ∧ w.cell? (a'.add (k * 4 + 3)) = some (.int .i64 m) := by
      intro k hk
      have hkm : k < m := by rw [hm]; split <;> omega
      obtain ⟨cs, hc, ht⟩ := hi k hkm
      rw [deed_cellsOf] at hc
      obtain ⟨_, hlen, hat⟩ := World.cells?_some hc
      obtain ⟨xs, n', _, _, _, hxl, hfd⟩ := DataW.trod_struct Tryz.underlying32 ht
      match cs, hlen with
      | [c0, c1, c2, c3], _ =>
        match xs, hxl with
        | [x0, x1, x2, x3], _ =>
          have g0 : DataW.trod enc Tryz.prog w base sp held n' 3 (([c0, c1, c2, c3].drop 0).take (Tryz.prog.cellsOf 3)) = some x0 := hfd 0 _ rfl
          have g1 : DataW.trod enc Tryz.prog w base sp held n' 9 (([c0, c1, c2, c3].drop 1).take (Tryz.prog.cellsOf 9)) = some x1 := hfd 1 _ rfl
          have g2 : DataW.trod enc Tryz.prog w base sp held n' 9 (([c0, c1, c2, c3].drop 2).take (Tryz.prog.cellsOf 9)) = some x2 := hfd 2 _ rfl
          have g3 : DataW.trod enc Tryz.prog w base sp held n' 3 (([c0, c1, c2, c3].drop 3).take (Tryz.prog.cellsOf 3)) = some x3 := hfd 3 _ rfl
          rw [show Tryz.prog.cellsOf 3 = 1 by kernel_rfl] at g0 g3
          rw [show Tryz.prog.cellsOf 9 = 1 by kernel_rfl] at g1 g2
          obtain ⟨D, e0, _, _⟩ := DataW.trod_int Tryz.underlying3 g0
          obtain ⟨s, e1, _, h1⟩ := DataW.trod_string Tryz.underlying9 g1
          obtain ⟨F, e2, _, h2⟩ := DataW.trod_string Tryz.underlying9 g2
          obtain ⟨m, e3, _, _⟩ := DataW.trod_int Tryz.underlying3 g3
          have d0 := hat 0 (by omega)
          have d1 := hat 1 (by omega)
          have d2 := hat 2 (by omega)
          have d3 := hat 3 (by omega)
          simp only [Go.Deep.add_add, List.drop_succ_cons, List.drop_zero, List.take_succ_cons, List.take_zero, List.cons.injEq, and_true, List.getElem?_cons_zero, List.getElem?_cons_succ, Nat.add_zero] at d0 d1 d2 d3 e0 e1 e2 e3
          subst e0 e1 e2 e3
          exact ⟨D, m, s, F, h1, h2, d0, d1, d2, d3⟩
    obtain ⟨D0, m0, s0, F0, _, _, c0, _⟩ := hall 0 h0
    exact ⟨a', rfl, by have := lt_cell c0; rwa [blk_add] at this, hall⟩
end Go.Proofs.YtaamjccffkdlhaaGreatDoor
