/- Data in: a deed, by value. -/
import Derived.Test.YtpgkhhchpojlaaaDoorLz
namespace Go.Proofs.YtpgkhhchpojlaaaDoor
open Go.ChangeShapes Go.WideShapes Go.ChangeAt Go.RowKit Go.Joins Go.Deep
open Go.ChangeMaps (open_string shut_string)
section
variable {H : Type} {enc : TypeId × Value → H} {w : World}
set_option maxRecDepth 100000 in
/-- A deed, by value. -/
theorem deed_in {r : Reach} {b0 : Nat} {v : Value} {d : DataW H} {p : List MemPlace} (hv : Value.okWide Tryd.prog w r b0 33 v) (h : DataW.Trod enc Tryd.prog w 0 (fun _ => true) true 33 v d p) (hl : Lite 33 d) :
    ∃ (d : Dd) (A A2 : Option Addr) (c c2 : Nat), v = ddV d A d.lines.length c A2 d.args.length c2 ∧ LnsAt (fun k => k < w.heap.size) w (.slice A d.lines.length c) d.lines ∧ SsAt (fun k => k < w.heap.size) w (.slice A2 d.args.length c2) d.args ∧ d.name.size ≤ 140737488351232 ∧ d.text.size ≤ 140737488351232 ∧ d.lines.length ≤ 10000000000000 ∧ d.args.length * 16 ≤ 140737488355328 ∧
      (-9223372036854775808 ≤ d.n ∧ d.n ≤ 9223372036854775807) ∧ (-9223372036854775808 ≤ d.what ∧ d.what ≤ 9223372036854775807) := by
  obtain ⟨cs, rfl, hsz⟩ := okWide_struct Tryd.underlying33 hv
  rw [show Tryd.prog.cellsOf 33 = 6 by kernel_rfl] at hsz
  obtain ⟨n, ht⟩ := h
  obtain ⟨cs', hcs'⟩ : ∃ cs', cs' = (Value.agg cs).cells.toList := ⟨_, rfl⟩
  rw [← hcs'] at ht
  have hlen : cs'.length = 6 := by rw [hcs']; simpa [Value.cells] using hsz
  have hcs : cs = cs'.toArray := by rw [hcs']; simp [Value.cells]
  have hy : Lite 33 ((d, p) : DataW H × List MemPlace).1 := hl
  obtain ⟨xs, n', _, hx, _, hxl, hfd⟩ := DataW.trod_struct Tryd.underlying33 ht
  rw [hx] at hy
  have hli := lite_struct Tryd.underlying33 hy
  match xs, hxl with
  | [x0, x1, x2, x3, x4, x5], _ =>
    have g0 : DataW.trod enc Tryd.prog w 0 (fun _ => true) true n' 3 ((cs'.drop 0).take (Tryd.prog.cellsOf 3)) = some x0 := hfd 0 _ rfl
    have g1 : DataW.trod enc Tryd.prog w 0 (fun _ => true) true n' 9 ((cs'.drop 1).take (Tryd.prog.cellsOf 9)) = some x1 := hfd 1 _ rfl
    have g2 : DataW.trod enc Tryd.prog w 0 (fun _ => true) true n' 9 ((cs'.drop 2).take (Tryd.prog.cellsOf 9)) = some x2 := hfd 2 _ rfl
    have g3 : DataW.trod enc Tryd.prog w 0 (fun _ => true) true n' 31 ((cs'.drop 3).take (Tryd.prog.cellsOf 31)) = some x3 := hfd 3 _ rfl
    have g4 : DataW.trod enc Tryd.prog w 0 (fun _ => true) true n' 27 ((cs'.drop 4).take (Tryd.prog.cellsOf 27)) = some x4 := hfd 4 _ rfl
    have g5 : DataW.trod enc Tryd.prog w 0 (fun _ => true) true n' 3 ((cs'.drop 5).take (Tryd.prog.cellsOf 3)) = some x5 := hfd 5 _ rfl
    rw [c3] at g0 g5
    rw [c9] at g1 g2
    rw [cLs] at g3
    rw [cSs] at g4
    obtain ⟨m0, e0, _, w0⟩ := DataW.trod_int Tryd.underlying3 g0
    obtain ⟨s1, e1, hz1⟩ := str_of g1 (hli 1 _ x1.1 rfl rfl)
    obtain ⟨s2, e2, hz2⟩ := str_of g2 (hli 2 _ x2.1 rfl rfl)
    obtain ⟨v3, l3, e3, hn3, hz3⟩ := lines_of g3 (hli 3 _ x3.1 rfl rfl)
    obtain ⟨v4, l4, e4, hn4, hz4⟩ := strs_of g4 (hli 4 _ x4.1 rfl rfl)
    obtain ⟨m5, e5, _, w5⟩ := DataW.trod_int Tryd.underlying3 g5
    obtain ⟨A, c, rfl, hn3'⟩ : ∃ A c, v3 = .slice A l3.length c ∧ LnsAt (fun k => k < w.heap.size) w (.slice A l3.length c) l3 := by
      have hn2 := hn3
      obtain ⟨A, c, e, _⟩ := hn2
      exact ⟨A, c, e, e ▸ hn3⟩
    obtain ⟨A2, c2, rfl, hn4'⟩ : ∃ A c, v4 = .slice A l4.length c ∧ SsAt (fun k => k < w.heap.size) w (.slice A l4.length c) l4 := by
      have hn2 := hn4
      obtain ⟨A, c, e, _⟩ := hn2
      exact ⟨A, c, e, e ▸ hn4⟩
    refine ⟨⟨m0, s1, s2, l3, l4, m5⟩, A, A2, c, c2, ?_, hn3', hn4', hz1, hz2, hz3, hz4, wf_i64 w5, wf_i64 w0⟩
    rw [hcs]
    match cs', hlen with
    | [a0, a1, a2, a3, a4, a5], _ =>
      have f0 := drop_take1 e0
      have f1 := drop_take1 e1
      have f2 := drop_take1 e2
      have f3 := drop_take1 e3
      have f4 := drop_take1 e4
      have f5 := drop_take1 e5
      simp only [List.getElem?_cons_zero, List.getElem?_cons_succ, Option.some.injEq] at f0 f1 f2 f3 f4 f5
      rw [f0, f1, f2, f3, f4, f5]
      rfl
end
end Go.Proofs.YtpgkhhchpojlaaaDoor
