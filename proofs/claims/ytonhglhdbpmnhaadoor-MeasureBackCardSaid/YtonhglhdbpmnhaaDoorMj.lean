/- Walks of package measure: readAll, Eval, Number, Prefix, Change. -/
import Derived.Test.YtonhglhdbpmnhaaDoorMi
namespace Go.Proofs.YtonhglhdbpmnhaaDoor
open Go.RowKit

/-- What a reader's function comes to, whichever reader. -/
def Reads (F : Nat) (s : ByteArray) (M : Md) (r : Res) : Prop :=
  ∀ (g : Nat) (w : World), g ≠ 0 → Rd w g s M 0 0 → OpsAt w → Calls Tryd.prog F #[.pointer (some ⟨g, 0, none⟩)] w (CPost w g s M 0 r)
theorem door_end {P : Program} {fn : Func} {R : Ending → World → Prop} {tmps : Array Value} {w : World} {v : Value} (hv : (results fn tmps).run P w = .ok v w) (hR : R (.returned v) w) : bodyPostD P fn R Exit.ret { tmps := tmps, defers := [] } w := ⟨v, hv, hR⟩
theorem OpsAt.set {w : World} (h : OpsAt w) {p : Addr} (hp : p.block ≠ 0) (v : Value) : OpsAt (w.setCell p v) := by
  obtain ⟨t, fr, h⟩ := h
  exact ⟨t, fr, (Below.heap_setCell w p v 0 (fun e => hp e.symm)).trans h⟩
theorem OpsAt.alloc {w : World} (h : OpsAt w) (o : Obj) : OpsAt (w.alloc o) := by
  have hl := h.lt
  obtain ⟨t, fr, h⟩ := h
  exact ⟨t, fr, (Below.heap_alloc w o 0 hl).trans h⟩
theorem after35 {w1 w2 : World} {B : Nat} {O : Obj} (hz : B + 1 + 1 + 1 ≤ w1.heap.size) (hx1 : w1.cell? ⟨B + 1, 0, none⟩ = some (.int .i64 0)) (hx2 : w1.cell? ⟨B + 1 + 1, 0, none⟩ = some (.int .i64 0))
    (hy1 : w1.frozen? ⟨B + 1, 0, none⟩ = false) (hy2 : w1.frozen? ⟨B + 1 + 1, 0, none⟩ = false) (h : ((w1.setCell ⟨B + 1 + 1, 0, none⟩ (.int .i64 0)).alloc O).grownBy w2 (some w1.heap.size)) :
    w2.cell? ⟨B + 1, 0, none⟩ = some (.int .i64 0) ∧ w2.cell? ⟨B + 1 + 1, 0, none⟩ = some (.int .i64 0) ∧ w2.frozen? ⟨B + 1, 0, none⟩ = false ∧ w2.frozen? ⟨B + 1 + 1, 0, none⟩ = false ∧ w1.heap.size < w2.heap.size := by
  have hs : (w1.setCell ⟨B + 1 + 1, 0, none⟩ (.int .i64 0)).heap.size = w1.heap.size := by simp
  have k1 := gcell h (b := B + 1) 0 (by simp; omega) (by omega)
  have k2 := gcell h (b := B + 1 + 1) 0 (by simp; omega) (by omega)
  refine ⟨k1.1.trans ?_, k2.1.trans ?_, k1.2.trans ?_, k2.2.trans ?_, ?_⟩
  · rw [World.cell?_alloc_lt _ _ _ (by rw [hs]; show B + 1 < _; omega), World.cell?_setCell_other _ _ _ _ (by intro e; injection e with e; omega)]
    exact hx1
  · rw [World.cell?_alloc_lt _ _ _ (by rw [hs]; show B + 1 + 1 < _; omega)]
    exact World.cell?_setCell_same _ _ _ hx2
  · rw [World.frozen?_alloc_old _ _ _ (by rw [hs]; show ¬ B + 1 = _; omega), World.frozen?_setCell]
    exact hy1
  · rw [World.frozen?_alloc_old _ _ _ (by rw [hs]; show ¬ B + 1 + 1 = _; omega), World.frozen?_setCell]
    exact hy2
  · have := h.size
    simp at this
    omega
/-- 35: readAll: a scale or a context that is none. -/
theorem c35u (F : Nat) (s : ByteArray) (c : Nat) (sz vs here : Int) (w : World) (h : argF c sz vs here = none) :
    Calls Tryd.prog 35 #[.string s, .int .u8 c, .agg #[.int .i64 sz, .int .i64 vs, .int .i64 here], .func (.func F) #[] #[]] w fun e w' => e = .returned (.tuple #[.int .i64 0, .int .i64 1]) ∧ Below w.heap.size w w' := by
  have H15 := Lib.hid (fun w => c15b c sz vs here w h)
  clear h
  go_enter_defers Tryd.func35, Tryd.ntmps35
  go_wp2_with (first
    | (go_at_call 15; refine (H15.out _).mono ?_; rintro e w1 ⟨rfl, hb1⟩; obtain ⟨hc1, hf1⟩ := bcell hb1; have hz1 := hb1.size))
  have hbw : Below w.heap.size w w1 := below_box (below_box (below_box hb1))
  have hx1 : w1.cell? ⟨w.heap.size + 1, 0, none⟩ = some (.int .i64 0) := (hc1 (w.heap.size + 1) 0 (by simp [go_sem])).trans (by simp [go_sem])
  have hx2 : w1.cell? ⟨w.heap.size + 1 + 1, 0, none⟩ = some (.int .i64 0) := (hc1 (w.heap.size + 1 + 1) 0 (by simp [go_sem])).trans (by simp [go_sem])
  have HX1 := Lib.hid hx1
  have HX2 := Lib.hid hx2
  clear hx1 hx2
  go_region
  all_goals
    go_wp2
    clear hc1 hf1
    have hx1 := HX1.out
    have hx2 := HX2.out
    refine door_end (v := .tuple #[.int .i64 0, .int .i64 1]) ?_ ⟨rfl, ?_⟩
    · simp [results, Tryd.results35, go_sem, hx1, hx2]
    · go_grown
set_option maxRecDepth 100000 in
/-- 35: readAll, where all is well. -/
theorem c35a36 (s : ByteArray) (c : Nat) (sz vs here one : Int) (w : World) (hO : OpsAt w) (h : argF c sz vs here = some one) (n : Int) (hF : Reads 36 s ⟨one, sz, vs, here, false⟩ (.ok n s.size)) :
    Calls Tryd.prog 35 #[.string s, .int .u8 c, .agg #[.int .i64 sz, .int .i64 vs, .int .i64 here], .func (.func 36) #[] #[]] w fun e w' => e = .returned (.tuple #[.int .i64 n, .int .i64 0]) ∧ Below w.heap.size w w' := by
  have hmf : ∀ (fn : Fn) (first cap : Array Value) (w : World), (Instr.makeFunc fn first cap).run Tryd.prog w = .ok (.func fn first cap) w := fun _ _ _ _ => rfl
  have H15 := Lib.hid (fun w => c15a c sz vs here one w h)
  clear h
  go_enter_defers Tryd.func35, Tryd.ntmps35
  go_wp2_with (first
    | (go_at_call 15; refine (H15.out _).mono ?_; rintro e w1 ⟨rfl, hb1⟩; obtain ⟨hc1, hf1⟩ := bcell hb1; have hz1 := hb1.size)
    | (go_at_call 36; have hbw : Below w.heap.size w w1 := below_box (below_box (below_box hb1));
       have hx1 : w1.cell? ⟨w.heap.size + 1, 0, none⟩ = some (.int .i64 0) := (hc1 (w.heap.size + 1) 0 (by simp [go_sem])).trans (by simp [go_sem]);
       have hx2 : w1.cell? ⟨w.heap.size + 1 + 1, 0, none⟩ = some (.int .i64 0) := (hc1 (w.heap.size + 1 + 1) 0 (by simp [go_sem])).trans (by simp [go_sem]);
       have hy1 : w1.frozen? ⟨w.heap.size + 1, 0, none⟩ = false := (hf1 (w.heap.size + 1) 0 (by simp [go_sem])).trans (by simp [go_sem]);
       have hy2 : w1.frozen? ⟨w.heap.size + 1 + 1, 0, none⟩ = false := (hf1 (w.heap.size + 1 + 1) 0 (by simp [go_sem])).trans (by simp [go_sem]);
       have hz : w.heap.size + 1 + 1 + 1 ≤ w1.heap.size := (by simpa using hz1);
       have hb3 : Below w.heap.size w ((w1.setCell ⟨w.heap.size + 1 + 1, 0, none⟩ (.int .i64 0)).alloc (.cells #[.string s, .int .i64 0, .int .i64 0, .int .i64 one, .int .i64 sz, .int .i64 vs, .int .i64 here, .bool false] 83)) := (hbw.setCell (by show _ ≤ w.heap.size + 1 + 1; omega) _).alloc (by simp; omega) _;
       clear hc1 hf1 hz1;
       refine (hF w1.heap.size _ (by omega) (by have := Blk.new (w1.setCell ⟨w.heap.size + 1 + 1, 0, none⟩ (.int .i64 0)) 83 #[.string s, .int .i64 0, .int .i64 0, .int .i64 one, .int .i64 sz, .int .i64 vs, .int .i64 here, .bool false]; simpa [Rd] using this) (((hO.below hbw).set (by simp) _).alloc _)).mono ?_; rintro e w2 ⟨rfl, hm2⟩;
       obtain ⟨g1, g2, j1, j2, hz2⟩ := after35 hz hx1 hx2 hy1 hy2 hm2.2; have hbw2 : Below w.heap.size w w2 := below_grown hb3 (by omega) hm2.2; have q1 := hm2.1.c1)
    | (go_at_call 51; (with_reducible refine (c51t _ _).mono ?_); rintro e w' ⟨rfl, rfl⟩))
  refine leaves_cons (f := 50) (args := #[.pointer (some ⟨w.heap.size + 1, 0, none⟩), .pointer (some ⟨w.heap.size + 1 + 1, 0, none⟩)]) (by simp) (by simp [go_sem]) ?_
  refine (c50r _ _ _).mono ?_
  rintro e u' w'' ⟨rfl, rfl, rfl⟩
  refine ⟨.tuple #[.int .i64 n, .int .i64 0], ?_, rfl, ?_⟩
  · simp [results, Tryd.results35, go_sem, g1, g2]
  · go_grown
set_option maxRecDepth 100000 in
/-- 35: readAll, where more stands behind. -/
theorem c35b36 (s : ByteArray) (c : Nat) (sz vs here one : Int) (w : World) (hO : OpsAt w) (h : argF c sz vs here = some one) (n : Int) (to : Nat) (hto : ¬ to = s.size) (hF : Reads 36 s ⟨one, sz, vs, here, false⟩ (.ok n to)) :
    Calls Tryd.prog 35 #[.string s, .int .u8 c, .agg #[.int .i64 sz, .int .i64 vs, .int .i64 here], .func (.func 36) #[] #[]] w fun e w' => e = .returned (.tuple #[.int .i64 0, .int .i64 4]) ∧ Below w.heap.size w w' := by
  have hne : ((to : Int) == (s.size : Int)) = false := by simp; omega
  have hmf : ∀ (fn : Fn) (first cap : Array Value) (w : World), (Instr.makeFunc fn first cap).run Tryd.prog w = .ok (.func fn first cap) w := fun _ _ _ _ => rfl
  have H15 := Lib.hid (fun w => c15a c sz vs here one w h)
  clear h
  go_enter_defers Tryd.func35, Tryd.ntmps35
  go_wp2_with (first
    | (go_at_call 15; refine (H15.out _).mono ?_; rintro e w1 ⟨rfl, hb1⟩; obtain ⟨hc1, hf1⟩ := bcell hb1; have hz1 := hb1.size)
    | (go_at_call 36; have hbw : Below w.heap.size w w1 := below_box (below_box (below_box hb1));
       have hx1 : w1.cell? ⟨w.heap.size + 1, 0, none⟩ = some (.int .i64 0) := (hc1 (w.heap.size + 1) 0 (by simp [go_sem])).trans (by simp [go_sem]);
       have hx2 : w1.cell? ⟨w.heap.size + 1 + 1, 0, none⟩ = some (.int .i64 0) := (hc1 (w.heap.size + 1 + 1) 0 (by simp [go_sem])).trans (by simp [go_sem]);
       have hy1 : w1.frozen? ⟨w.heap.size + 1, 0, none⟩ = false := (hf1 (w.heap.size + 1) 0 (by simp [go_sem])).trans (by simp [go_sem]);
       have hy2 : w1.frozen? ⟨w.heap.size + 1 + 1, 0, none⟩ = false := (hf1 (w.heap.size + 1 + 1) 0 (by simp [go_sem])).trans (by simp [go_sem]);
       have hz : w.heap.size + 1 + 1 + 1 ≤ w1.heap.size := (by simpa using hz1);
       have hb3 : Below w.heap.size w ((w1.setCell ⟨w.heap.size + 1 + 1, 0, none⟩ (.int .i64 0)).alloc (.cells #[.string s, .int .i64 0, .int .i64 0, .int .i64 one, .int .i64 sz, .int .i64 vs, .int .i64 here, .bool false] 83)) := (hbw.setCell (by show _ ≤ w.heap.size + 1 + 1; omega) _).alloc (by simp; omega) _;
       clear hc1 hf1 hz1;
       refine (hF w1.heap.size _ (by omega) (by have := Blk.new (w1.setCell ⟨w.heap.size + 1 + 1, 0, none⟩ (.int .i64 0)) 83 #[.string s, .int .i64 0, .int .i64 0, .int .i64 one, .int .i64 sz, .int .i64 vs, .int .i64 here, .bool false]; simpa [Rd] using this) (((hO.below hbw).set (by simp) _).alloc _)).mono ?_; rintro e w2 ⟨rfl, hm2⟩;
       obtain ⟨g1, g2, j1, j2, hz2⟩ := after35 hz hx1 hx2 hy1 hy2 hm2.2; have hbw2 : Below w.heap.size w w2 := below_grown hb3 (by omega) hm2.2; have q1 := hm2.1.c1)
    | (go_at_call 51; (with_reducible refine (c51f _ _).mono ?_); rintro e w' ⟨rfl, rfl⟩))
  refine leaves_cons (f := 50) (args := #[.pointer (some ⟨w.heap.size + 1, 0, none⟩), .pointer (some ⟨w.heap.size + 1 + 1, 0, none⟩)]) (by simp) (by simp [go_sem]) ?_
  refine (c50p _ _ 4 _ 0 _ (by simp [go_sem, g1]; rfl) ?_ ?_ ?_ (by omega)).mono ?_
  · simp [go_sem, g2]
  · simp [go_sem, j1]
  · simp [go_sem, j2]
  rintro e u' w'' ⟨rfl, rfl, rfl⟩
  refine ⟨.tuple #[.int .i64 0, .int .i64 4], ?_, rfl, ?_⟩
  · simp [results, Tryd.results35, go_sem, g1, g2]
  · go_grown
set_option maxRecDepth 100000 in
/-- 35: readAll, where something is thrown. -/
theorem c35e36 (s : ByteArray) (c : Nat) (sz vs here one : Int) (w : World) (hO : OpsAt w) (h : argF c sz vs here = some one) (x : Nat) (hF : Reads 36 s ⟨one, sz, vs, here, false⟩ (.err x)) :
    Calls Tryd.prog 35 #[.string s, .int .u8 c, .agg #[.int .i64 sz, .int .i64 vs, .int .i64 here], .func (.func 36) #[] #[]] w fun e w' => e = .returned (.tuple #[.int .i64 0, .int .i64 x]) ∧ Below w.heap.size w w' := by
  have hmf : ∀ (fn : Fn) (first cap : Array Value) (w : World), (Instr.makeFunc fn first cap).run Tryd.prog w = .ok (.func fn first cap) w := fun _ _ _ _ => rfl
  have H15 := Lib.hid (fun w => c15a c sz vs here one w h)
  clear h
  go_enter_defers Tryd.func35, Tryd.ntmps35
  go_wp2_with (first
    | (go_at_call 15; refine (H15.out _).mono ?_; rintro e w1 ⟨rfl, hb1⟩; obtain ⟨hc1, hf1⟩ := bcell hb1; have hz1 := hb1.size)
    | (go_at_call 36; have hbw : Below w.heap.size w w1 := below_box (below_box (below_box hb1));
       have hx1 : w1.cell? ⟨w.heap.size + 1, 0, none⟩ = some (.int .i64 0) := (hc1 (w.heap.size + 1) 0 (by simp [go_sem])).trans (by simp [go_sem]);
       have hx2 : w1.cell? ⟨w.heap.size + 1 + 1, 0, none⟩ = some (.int .i64 0) := (hc1 (w.heap.size + 1 + 1) 0 (by simp [go_sem])).trans (by simp [go_sem]);
       have hy1 : w1.frozen? ⟨w.heap.size + 1, 0, none⟩ = false := (hf1 (w.heap.size + 1) 0 (by simp [go_sem])).trans (by simp [go_sem]);
       have hy2 : w1.frozen? ⟨w.heap.size + 1 + 1, 0, none⟩ = false := (hf1 (w.heap.size + 1 + 1) 0 (by simp [go_sem])).trans (by simp [go_sem]);
       have hz : w.heap.size + 1 + 1 + 1 ≤ w1.heap.size := (by simpa using hz1);
       have hb3 : Below w.heap.size w ((w1.setCell ⟨w.heap.size + 1 + 1, 0, none⟩ (.int .i64 0)).alloc (.cells #[.string s, .int .i64 0, .int .i64 0, .int .i64 one, .int .i64 sz, .int .i64 vs, .int .i64 here, .bool false] 83)) := (hbw.setCell (by show _ ≤ w.heap.size + 1 + 1; omega) _).alloc (by simp; omega) _;
       clear hc1 hf1 hz1;
       refine (hF w1.heap.size _ (by omega) (by have := Blk.new (w1.setCell ⟨w.heap.size + 1 + 1, 0, none⟩ (.int .i64 0)) 83 #[.string s, .int .i64 0, .int .i64 0, .int .i64 one, .int .i64 sz, .int .i64 vs, .int .i64 here, .bool false]; simpa [Rd] using this) (((hO.below hbw).set (by simp) _).alloc _)).mono ?_; rintro e w2 ⟨rfl, hm2⟩;
       obtain ⟨g1, g2, j1, j2, hz2⟩ := after35 hz hx1 hx2 hy1 hy2 hm2; have hbw2 : Below w.heap.size w w2 := below_grown hb3 (by omega) hm2; skip))
  refine leaves_cons (f := 50) (args := #[.pointer (some ⟨w.heap.size + 1, 0, none⟩), .pointer (some ⟨w.heap.size + 1 + 1, 0, none⟩)]) (by simp) (by simp [go_sem]) ?_
  refine (c50p _ _ x _ 0 _ (by simp [go_sem, g1]; rfl) ?_ ?_ ?_ (by omega)).mono ?_
  · simp [go_sem, g2]
  · simp [go_sem, j1]
  · simp [go_sem, j2]
  rintro e u' w'' ⟨rfl, rfl, rfl⟩
  refine ⟨.tuple #[.int .i64 0, .int .i64 x], ?_, rfl, ?_⟩
  · simp [results, Tryd.results35, go_sem, g1, g2]
  · go_grown
set_option maxRecDepth 100000 in
/-- 35: readAll, where all is well. -/
theorem c35a38 (s : ByteArray) (c : Nat) (sz vs here one : Int) (w : World) (hO : OpsAt w) (h : argF c sz vs here = some one) (n : Int) (hF : Reads 38 s ⟨one, sz, vs, here, false⟩ (.ok n s.size)) :
    Calls Tryd.prog 35 #[.string s, .int .u8 c, .agg #[.int .i64 sz, .int .i64 vs, .int .i64 here], .func (.func 38) #[] #[]] w fun e w' => e = .returned (.tuple #[.int .i64 n, .int .i64 0]) ∧ Below w.heap.size w w' := by
  have hmf : ∀ (fn : Fn) (first cap : Array Value) (w : World), (Instr.makeFunc fn first cap).run Tryd.prog w = .ok (.func fn first cap) w := fun _ _ _ _ => rfl
  have H15 := Lib.hid (fun w => c15a c sz vs here one w h)
  clear h
  go_enter_defers Tryd.func35, Tryd.ntmps35
  go_wp2_with (first
    | (go_at_call 15; refine (H15.out _).mono ?_; rintro e w1 ⟨rfl, hb1⟩; obtain ⟨hc1, hf1⟩ := bcell hb1; have hz1 := hb1.size)
    | (go_at_call 38; have hbw : Below w.heap.size w w1 := below_box (below_box (below_box hb1));
       have hx1 : w1.cell? ⟨w.heap.size + 1, 0, none⟩ = some (.int .i64 0) := (hc1 (w.heap.size + 1) 0 (by simp [go_sem])).trans (by simp [go_sem]);
       have hx2 : w1.cell? ⟨w.heap.size + 1 + 1, 0, none⟩ = some (.int .i64 0) := (hc1 (w.heap.size + 1 + 1) 0 (by simp [go_sem])).trans (by simp [go_sem]);
       have hy1 : w1.frozen? ⟨w.heap.size + 1, 0, none⟩ = false := (hf1 (w.heap.size + 1) 0 (by simp [go_sem])).trans (by simp [go_sem]);
       have hy2 : w1.frozen? ⟨w.heap.size + 1 + 1, 0, none⟩ = false := (hf1 (w.heap.size + 1 + 1) 0 (by simp [go_sem])).trans (by simp [go_sem]);
       have hz : w.heap.size + 1 + 1 + 1 ≤ w1.heap.size := (by simpa using hz1);
       have hb3 : Below w.heap.size w ((w1.setCell ⟨w.heap.size + 1 + 1, 0, none⟩ (.int .i64 0)).alloc (.cells #[.string s, .int .i64 0, .int .i64 0, .int .i64 one, .int .i64 sz, .int .i64 vs, .int .i64 here, .bool false] 83)) := (hbw.setCell (by show _ ≤ w.heap.size + 1 + 1; omega) _).alloc (by simp; omega) _;
       clear hc1 hf1 hz1;
       refine (hF w1.heap.size _ (by omega) (by have := Blk.new (w1.setCell ⟨w.heap.size + 1 + 1, 0, none⟩ (.int .i64 0)) 83 #[.string s, .int .i64 0, .int .i64 0, .int .i64 one, .int .i64 sz, .int .i64 vs, .int .i64 here, .bool false]; simpa [Rd] using this) (((hO.below hbw).set (by simp) _).alloc _)).mono ?_; rintro e w2 ⟨rfl, hm2⟩;
       obtain ⟨g1, g2, j1, j2, hz2⟩ := after35 hz hx1 hx2 hy1 hy2 hm2.2; have hbw2 : Below w.heap.size w w2 := below_grown hb3 (by omega) hm2.2; have q1 := hm2.1.c1)
    | (go_at_call 51; (with_reducible refine (c51t _ _).mono ?_); rintro e w' ⟨rfl, rfl⟩))
  refine leaves_cons (f := 50) (args := #[.pointer (some ⟨w.heap.size + 1, 0, none⟩), .pointer (some ⟨w.heap.size + 1 + 1, 0, none⟩)]) (by simp) (by simp [go_sem]) ?_
  refine (c50r _ _ _).mono ?_
  rintro e u' w'' ⟨rfl, rfl, rfl⟩
  refine ⟨.tuple #[.int .i64 n, .int .i64 0], ?_, rfl, ?_⟩
  · simp [results, Tryd.results35, go_sem, g1, g2]
  · go_grown
set_option maxRecDepth 100000 in
/-- 35: readAll, where more stands behind. -/
theorem c35b38 (s : ByteArray) (c : Nat) (sz vs here one : Int) (w : World) (hO : OpsAt w) (h : argF c sz vs here = some one) (n : Int) (to : Nat) (hto : ¬ to = s.size) (hF : Reads 38 s ⟨one, sz, vs, here, false⟩ (.ok n to)) :
    Calls Tryd.prog 35 #[.string s, .int .u8 c, .agg #[.int .i64 sz, .int .i64 vs, .int .i64 here], .func (.func 38) #[] #[]] w fun e w' => e = .returned (.tuple #[.int .i64 0, .int .i64 4]) ∧ Below w.heap.size w w' := by
  have hne : ((to : Int) == (s.size : Int)) = false := by simp; omega
  have hmf : ∀ (fn : Fn) (first cap : Array Value) (w : World), (Instr.makeFunc fn first cap).run Tryd.prog w = .ok (.func fn first cap) w := fun _ _ _ _ => rfl
  have H15 := Lib.hid (fun w => c15a c sz vs here one w h)
  clear h
  go_enter_defers Tryd.func35, Tryd.ntmps35
  go_wp2_with (first
    | (go_at_call 15; refine (H15.out _).mono ?_; rintro e w1 ⟨rfl, hb1⟩; obtain ⟨hc1, hf1⟩ := bcell hb1; have hz1 := hb1.size)
    | (go_at_call 38; have hbw : Below w.heap.size w w1 := below_box (below_box (below_box hb1));
       have hx1 : w1.cell? ⟨w.heap.size + 1, 0, none⟩ = some (.int .i64 0) := (hc1 (w.heap.size + 1) 0 (by simp [go_sem])).trans (by simp [go_sem]);
       have hx2 : w1.cell? ⟨w.heap.size + 1 + 1, 0, none⟩ = some (.int .i64 0) := (hc1 (w.heap.size + 1 + 1) 0 (by simp [go_sem])).trans (by simp [go_sem]);
       have hy1 : w1.frozen? ⟨w.heap.size + 1, 0, none⟩ = false := (hf1 (w.heap.size + 1) 0 (by simp [go_sem])).trans (by simp [go_sem]);
       have hy2 : w1.frozen? ⟨w.heap.size + 1 + 1, 0, none⟩ = false := (hf1 (w.heap.size + 1 + 1) 0 (by simp [go_sem])).trans (by simp [go_sem]);
       have hz : w.heap.size + 1 + 1 + 1 ≤ w1.heap.size := (by simpa using hz1);
       have hb3 : Below w.heap.size w ((w1.setCell ⟨w.heap.size + 1 + 1, 0, none⟩ (.int .i64 0)).alloc (.cells #[.string s, .int .i64 0, .int .i64 0, .int .i64 one, .int .i64 sz, .int .i64 vs, .int .i64 here, .bool false] 83)) := (hbw.setCell (by show _ ≤ w.heap.size + 1 + 1; omega) _).alloc (by simp; omega) _;
       clear hc1 hf1 hz1;
       refine (hF w1.heap.size _ (by omega) (by have := Blk.new (w1.setCell ⟨w.heap.size + 1 + 1, 0, none⟩ (.int .i64 0)) 83 #[.string s, .int .i64 0, .int .i64 0, .int .i64 one, .int .i64 sz, .int .i64 vs, .int .i64 here, .bool false]; simpa [Rd] using this) (((hO.below hbw).set (by simp) _).alloc _)).mono ?_; rintro e w2 ⟨rfl, hm2⟩;
       obtain ⟨g1, g2, j1, j2, hz2⟩ := after35 hz hx1 hx2 hy1 hy2 hm2.2; have hbw2 : Below w.heap.size w w2 := below_grown hb3 (by omega) hm2.2; have q1 := hm2.1.c1)
    | (go_at_call 51; (with_reducible refine (c51f _ _).mono ?_); rintro e w' ⟨rfl, rfl⟩))
  refine leaves_cons (f := 50) (args := #[.pointer (some ⟨w.heap.size + 1, 0, none⟩), .pointer (some ⟨w.heap.size + 1 + 1, 0, none⟩)]) (by simp) (by simp [go_sem]) ?_
  refine (c50p _ _ 4 _ 0 _ (by simp [go_sem, g1]; rfl) ?_ ?_ ?_ (by omega)).mono ?_
  · simp [go_sem, g2]
  · simp [go_sem, j1]
  · simp [go_sem, j2]
  rintro e u' w'' ⟨rfl, rfl, rfl⟩
  refine ⟨.tuple #[.int .i64 0, .int .i64 4], ?_, rfl, ?_⟩
  · simp [results, Tryd.results35, go_sem, g1, g2]
  · go_grown
set_option maxRecDepth 100000 in
/-- 35: readAll, where something is thrown. -/
theorem c35e38 (s : ByteArray) (c : Nat) (sz vs here one : Int) (w : World) (hO : OpsAt w) (h : argF c sz vs here = some one) (x : Nat) (hF : Reads 38 s ⟨one, sz, vs, here, false⟩ (.err x)) :
    Calls Tryd.prog 35 #[.string s, .int .u8 c, .agg #[.int .i64 sz, .int .i64 vs, .int .i64 here], .func (.func 38) #[] #[]] w fun e w' => e = .returned (.tuple #[.int .i64 0, .int .i64 x]) ∧ Below w.heap.size w w' := by
  have hmf : ∀ (fn : Fn) (first cap : Array Value) (w : World), (Instr.makeFunc fn first cap).run Tryd.prog w = .ok (.func fn first cap) w := fun _ _ _ _ => rfl
  have H15 := Lib.hid (fun w => c15a c sz vs here one w h)
  clear h
  go_enter_defers Tryd.func35, Tryd.ntmps35
  go_wp2_with (first
    | (go_at_call 15; refine (H15.out _).mono ?_; rintro e w1 ⟨rfl, hb1⟩; obtain ⟨hc1, hf1⟩ := bcell hb1; have hz1 := hb1.size)
    | (go_at_call 38; have hbw : Below w.heap.size w w1 := below_box (below_box (below_box hb1));
       have hx1 : w1.cell? ⟨w.heap.size + 1, 0, none⟩ = some (.int .i64 0) := (hc1 (w.heap.size + 1) 0 (by simp [go_sem])).trans (by simp [go_sem]);
       have hx2 : w1.cell? ⟨w.heap.size + 1 + 1, 0, none⟩ = some (.int .i64 0) := (hc1 (w.heap.size + 1 + 1) 0 (by simp [go_sem])).trans (by simp [go_sem]);
       have hy1 : w1.frozen? ⟨w.heap.size + 1, 0, none⟩ = false := (hf1 (w.heap.size + 1) 0 (by simp [go_sem])).trans (by simp [go_sem]);
       have hy2 : w1.frozen? ⟨w.heap.size + 1 + 1, 0, none⟩ = false := (hf1 (w.heap.size + 1 + 1) 0 (by simp [go_sem])).trans (by simp [go_sem]);
       have hz : w.heap.size + 1 + 1 + 1 ≤ w1.heap.size := (by simpa using hz1);
       have hb3 : Below w.heap.size w ((w1.setCell ⟨w.heap.size + 1 + 1, 0, none⟩ (.int .i64 0)).alloc (.cells #[.string s, .int .i64 0, .int .i64 0, .int .i64 one, .int .i64 sz, .int .i64 vs, .int .i64 here, .bool false] 83)) := (hbw.setCell (by show _ ≤ w.heap.size + 1 + 1; omega) _).alloc (by simp; omega) _;
       clear hc1 hf1 hz1;
       refine (hF w1.heap.size _ (by omega) (by have := Blk.new (w1.setCell ⟨w.heap.size + 1 + 1, 0, none⟩ (.int .i64 0)) 83 #[.string s, .int .i64 0, .int .i64 0, .int .i64 one, .int .i64 sz, .int .i64 vs, .int .i64 here, .bool false]; simpa [Rd] using this) (((hO.below hbw).set (by simp) _).alloc _)).mono ?_; rintro e w2 ⟨rfl, hm2⟩;
       obtain ⟨g1, g2, j1, j2, hz2⟩ := after35 hz hx1 hx2 hy1 hy2 hm2; have hbw2 : Below w.heap.size w w2 := below_grown hb3 (by omega) hm2; skip))
  refine leaves_cons (f := 50) (args := #[.pointer (some ⟨w.heap.size + 1, 0, none⟩), .pointer (some ⟨w.heap.size + 1 + 1, 0, none⟩)]) (by simp) (by simp [go_sem]) ?_
  refine (c50p _ _ x _ 0 _ (by simp [go_sem, g1]; rfl) ?_ ?_ ?_ (by omega)).mono ?_
  · simp [go_sem, g2]
  · simp [go_sem, j1]
  · simp [go_sem, j2]
  rintro e u' w'' ⟨rfl, rfl, rfl⟩
  refine ⟨.tuple #[.int .i64 0, .int .i64 x], ?_, rfl, ?_⟩
  · simp [results, Tryd.results35, go_sem, g1, g2]
  · go_grown
end Go.Proofs.YtonhglhdbpmnhaaDoor
