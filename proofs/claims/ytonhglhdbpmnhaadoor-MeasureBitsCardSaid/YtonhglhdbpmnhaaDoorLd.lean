/- The rows' last step, whatever the arguments: nothing old has turned, so they read as before. Structs of whole numbers, opened. -/
import Derived.Test.YtonhglhdbpmnhaaDoorLb
import Derived.Carry
namespace Go.Proofs.YtonhglhdbpmnhaaDoor
open Go.ChangeShapes Go.WideShapes Go.ChangeAt Go.RowKit Go.Joins Go.Deep

def readB (P : Program) (ts : List TypeId) : Bool := ts.all fun t => P.readableRec t && decide (t < P.types.size)
theorem trodAll_stays {P : Program} (hlo : laidOutB P = true) {H : Type} {enc : TypeId × Value → H} {W W' : World} {sp : Nat → Bool} (hb : Below W.heap.size W W') : ∀ {ts : List TypeId} {vs : List Value} {ds : List (DataW H)} {ps : List MemPlace}, readB P ts = true →
    DataW.TrodAll enc P W 0 (fun _ => true) true ts vs ds ps → (∀ p ∈ ps, p.block < W.heap.size) → (∀ p ∈ ps, sp p.block = true) → DataW.TrodAll enc P W' 0 sp true ts vs ds ps := by
  intro ts
  induction ts with
  | nil =>
    intro vs ds ps _ h _ _
    obtain ⟨rfl, rfl, rfl⟩ := trodAll_nil h
    exact trodAll_mk0
  | cons t ts ih =>
    intro vs ds ps hr h hl hs
    obtain ⟨v, vs, d, ds, p, q, rfl, rfl, rfl, h0, h1⟩ := trodAll_cons h
    simp only [readB, List.all_cons, Bool.and_eq_true, decide_eq_true_eq] at hr
    exact trodAll_cons_mk (WideElems.Trod_stays hlo hr.1.1 hr.1.2 h0 (fun x hx => hb.same (hl x (List.mem_append.2 (.inl hx)))) (fun x hx => hs x (List.mem_append.2 (.inl hx))))
      (ih (by simpa [readB] using hr.2) h1 (fun x hx => hl x (List.mem_append.2 (.inr hx))) (fun x hx => hs x (List.mem_append.2 (.inr hx))))
/-- A row that says 'true, and the arguments read as before'. -/
theorem post_true {P : Program} (hlo : laidOutB P = true) {H : Type} {enc : TypeId × Value → H} {f : Func} {s : ChangeSpec} {apart fresh handsOn again : Bool} {W W' : World} {args : Array Value} {ds gs : List (DataW H)} {before : List MemPlace}
    (h4 : P.underlying 4 = some .bool) (hs : s.vars = []) (hf : f.resultTypes = #[4]) (hp : readB P f.params.toList = true) (hfn : s.fn H ds = { results := [.lit (.bool true)], args := ds })
    (hW : DataW.Whole enc P f.params.toList s.vars apart W args.toList ds gs before) (hb : Below W.heap.size W W') : s.post enc P f apart fresh handsOn again W args (.bool true) W' := by
  have hlt : ∀ p ∈ before, p.block < W.heap.size := fun p hp => hW.lt p hp
  have hW' := hW
  obtain ⟨p, q, hA, hV, rfl, _, _⟩ := hW'
  rw [hs] at hV
  obtain ⟨rfl, rfl⟩ := trodVars_none hV
  have hfn' : s.fn H (ds ++ []) = { results := [.lit (.bool true)], args := ds } := by rw [List.append_nil]; exact hfn
  refine post_of_below (pa := p) (pv := []) hW ?_ ?_ ?_ rfl hb ?_
  · intro b sp hd
    rw [hfn', hf]
    exact trodAll_cons_mk (shut_bool h4 _) trodAll_mk0
  · intro sp hsp
    rw [hfn']
    exact trodAll_stays hlo hb hp hA (fun x hx => hlt x (by simpa using hx)) (fun x hx => hsp x (by simpa using hx))
  · intro sp _
    rw [hfn', hs]
    rfl
  · exact ok_one hf rfl (okWide_bool_mk h4 _)
theorem laidOutP : laidOutB Tryd.prog = true := by kernel_rfl
/-- A struct whose fields are all whole numbers. -/
def intOfV : Value → Int
  | .int _ n => n
  | _ => 0
theorem open_struct_ints {P : Program} {H : Type} {enc : TypeId × Value → H} {w : World} {base : Nat} {sp : Nat → Bool} {held : Bool} {r : Reach} {b0 : Nat} {t : TypeId} {fs : Array Field} {v : Value} {d : DataW H} {p : List MemPlace}
    (hu3 : P.underlying 3 = some (.int .i64)) (hs : P.underlying t = some (.struct fs)) (hone : oneCellFields P fs = true) (hC : P.cellsOf t = fs.size) (h3 : ∀ (j : Nat) (f : Field), fs[j]? = some f → f.type = 3)
    (hv : Value.okWide P w r b0 t v) (h : DataW.Trod enc P w base sp held t v d p) : ∃ xs : List Int, v = .agg (xs.map fun x => Value.int .i64 x).toArray ∧ xs.length = fs.size := by
  obtain ⟨cs, rfl, hsz⟩ := okWide_struct hs hv
  obtain ⟨l⟩ := cs
  obtain ⟨fuel, hf⟩ := h
  obtain ⟨xs, n, _, hx, _, hlen, hg⟩ := DataW.trod_struct hs hf
  have hl : l.length = fs.size := hsz.trans hC
  refine ⟨l.map intOfV, ?_, by simpa using hl⟩
  congr 2
  rw [List.map_map]
  refine (List.map_id' l).symm.trans (List.map_congr_left fun x hx => ?_)
  obtain ⟨j, hj, rfl⟩ := List.getElem_of_mem hx
  have hjf : fs[j]? = some (fs[j]'(by omega)) := Array.getElem?_eq_getElem (by omega)
  obtain ⟨o, k⟩ := hone_of hone j _ hjf
  have hgj := hg j _ hjf
  rw [o, k, h3 j _ hjf] at hgj
  have hone' : (List.drop j (Value.agg ⟨l⟩).cells.toList).take 1 = [l[j]] := by
    show (l.drop j).take 1 = [l[j]]
    rw [List.drop_eq_getElem_cons hj]; rfl
  rw [hone'] at hgj
  have hxs : xs[j]? = some (xs[j]'(by omega)) := List.getElem?_eq_getElem (by omega)
  rw [hxs] at hgj
  obtain ⟨m, e, _, _⟩ := DataW.trod_int hu3 hgj
  simp only [List.cons.injEq, and_true] at e
  rw [e]
  rfl
/-- A slice of whole numbers, opened. -/
theorem open_sl_ints {P : Program} {H : Type} {enc : TypeId × Value → H} {w : World} {base : Nat} {sp : Nat → Bool} {held : Bool} {r : Reach} {b0 : Nat} {t e : TypeId} {k : IntKind} {v : Value} {d : DataW H} {p : List MemPlace}
    (ht : P.underlying t = some (.slice e)) (he : P.underlying e = some (.int k)) (hc : P.cellsOf e = 1) (hv : Value.okWide P w r b0 t v) (h : DataW.Trod enc P w base sp held t v d p) :
    v = .slice none 0 0 ∨ ∃ (a : Addr) (len cap : Nat), v = .slice (some a) len cap ∧ len ≤ cap ∧ cap ≤ maxLen ∧ ∀ i, i < len → ∃ z, w.cell? (a.add i) = some (.int k z) ∧ (Lit.int k z).wf = true := by
  obtain ⟨a, len, cap, rfl⟩ := okWide_slice ht hv
  obtain ⟨fuel, hf⟩ := h
  rcases open_ints ht he hc hf with ⟨hcs, _⟩ | ⟨a', len', cap', zs, hcs, _, hl, hm, hz, _, hcell, hwz⟩
  · left
    have : (Value.slice a len cap).cells.toList = [.slice a len cap] := rfl
    rw [this] at hcs
    injection hcs
  · right
    have : (Value.slice a len cap).cells.toList = [.slice a len cap] := rfl
    rw [this] at hcs
    injection hcs with hcs _
    refine ⟨a', len', cap', hcs, hl, hm, fun i hi => ?_⟩
    have hiz : i < zs.length := by rw [hz]; split <;> omega
    refine ⟨_, hcell i hiz, hwz _ ?_⟩
    rw [List.getD, List.getElem?_eq_getElem hiz]
    exact List.getElem_mem hiz
/-- A world for a row's witness: the settled one, the table (block 0) holding what its initialiser lays. -/
noncomputable def laidWorld (os : Os) : World :=
  { World.holding Tryd.prog os ⟨#[], #[], []⟩ with heap := (World.holding Tryd.prog os ⟨#[], #[], []⟩).heap.modify 0 fun
      | .cells _ t frozen => .cells opsA t frozen
      | o => o }
end Go.Proofs.YtonhglhdbpmnhaaDoor
