/- Walks of package measure's edge: what is thrown is caught. -/
import Derived.Test.YtonhglhdbpmnhaaDoorMh
import Derived.Test.YtonhglhdbpmnhaaDoorMk
namespace Go.Proofs.YtonhglhdbpmnhaaDoor
open Go.RowKit

theorem bcell {W w1 : World} (hb : Below W.heap.size W w1) : (∀ b o, b < W.heap.size → w1.cell? ⟨b, o, none⟩ = W.cell? ⟨b, o, none⟩) ∧ (∀ b o, b < W.heap.size → w1.frozen? ⟨b, o, none⟩ = W.frozen? ⟨b, o, none⟩) :=
  ⟨fun b o h => hb.cell (p := ⟨b, o, none⟩) h, fun b o h => hb.frozen (p := ⟨b, o, none⟩) h⟩
theorem below_box {w w1 : World} {o : Obj} (h : Below (w.alloc o).heap.size (w.alloc o) w1) : Below w.heap.size w w1 :=
  ((Below.refl w.heap.size w).alloc (Nat.le_refl _) o).trans (h.mono (by simp))
theorem below_trans {w w1 w2 : World} (h : Below w.heap.size w w1) (k : Below w1.heap.size w1 w2) : Below w.heap.size w w2 := h.trans (k.mono h.size)
theorem below_grown {w w1 w2 : World} {g : Nat} (h : Below w.heap.size w w1) (hg : w.heap.size ≤ g) (k : w1.grownBy w2 (some g)) : Below w.heap.size w w2 :=
  ⟨k.os.trans h.os, k.tape.trans h.tape, k.output.trans h.output, Nat.le_trans h.size k.size, fun i hi => (k.block i (Nat.lt_of_lt_of_le hi h.size) (fun e => by injection e with e; omega)).trans (h.block i hi)⟩
theorem gcell {w1 w2 : World} {g : Nat} (k : w1.grownBy w2 (some g)) {b : Nat} (o : Nat) (hb : b < w1.heap.size) (hn : b ≠ g) : w2.cell? ⟨b, o, none⟩ = w1.cell? ⟨b, o, none⟩ ∧ w2.frozen? ⟨b, o, none⟩ = w1.frozen? ⟨b, o, none⟩ := by
  have h := k.block b hb (fun e => hn (by injection e))
  exact ⟨World.cell?_of_block h, by simp [World.frozen?, h]⟩
/-- 50: the closure that catches, where something was thrown. -/
theorem c50p (b1 b2 : Nat) (x : Int) (y1 y2 : Int) (w : World) (h1 : w.cell? ⟨b1, 0, none⟩ = some (.int .i64 y1)) (h2 : w.cell? ⟨b2, 0, none⟩ = some (.int .i64 y2)) (f1 : w.frozen? ⟨b1, 0, none⟩ = false) (f2 : w.frozen? ⟨b2, 0, none⟩ = false) (hne : ¬ b1 = b2) :
    CallsD Tryd.prog 50 #[.pointer (some ⟨b1, 0, none⟩), .pointer (some ⟨b2, 0, none⟩)] (.panicking [{ v := .iface 31 (.int .i64 x), recovered := false }]) w fun e u' w' =>
      e = .returned (.tuple #[]) ∧ u' = .panicking [{ v := .iface 31 (.int .i64 x), recovered := true }] ∧ w' = (w.setCell ⟨b1, 0, none⟩ (.int .i64 0)).setCell ⟨b2, 0, none⟩ (.int .i64 x) := by
  have hta : ∀ w : World, (Instr.typeAssert (.iface 31 (.int .i64 x)) 20 31 true).run Tryd.prog w = .ok (.tuple #[.int .i64 x, .bool true]) w := fun _ => by kernel_rfl
  refine callsD_of_wpS Tryd.func50 rfl fun c₀ cs hu => ?_
  have ht : (#[.pointer (some ⟨b1, 0, none⟩), .pointer (some ⟨b2, 0, none⟩)] ++ Array.replicate (Tryd.f50.ntmps - (#[Value.pointer (some ⟨b1, 0, none⟩), Value.pointer (some ⟨b2, 0, none⟩)] : Array Value).size) undef : Array Value) = #[.pointer (some ⟨b1, 0, none⟩), .pointer (some ⟨b2, 0, none⟩), undef, undef, undef, undef, undef, undef, undef, undef, undef] := by kernel_rfl
  rw [ht]
  apply wpS_seq
  apply wpS_region
  simp [wpOpsS, go_sem, recoverD, hu, Exit.thenS, hta]
  apply wpS_seq
  apply wpS_region
  simp [wpOpsS, go_sem, Exit.thenS]
  refine wpS_cond (t := true) (by simp [Act.eval]) ?_
  simp only [if_true]
  apply wpS_region
  simp [wpOpsS, go_sem, h1, h2, f1, f2, bodyPostS, results, Tryd.results50]
/-- 50: the closure that catches, where nothing was thrown. -/
theorem c50r (b1 b2 : Nat) (w : World) :
    CallsD Tryd.prog 50 #[.pointer (some ⟨b1, 0, none⟩), .pointer (some ⟨b2, 0, none⟩)] .returning w fun e u' w' =>
      e = .returned (.tuple #[]) ∧ u' = .returning ∧ w' = w := by
  have hta : ∀ w : World, (Instr.typeAssert .nilIface 20 31 true).run Tryd.prog w = .ok (.tuple #[.int .i64 0, .bool false]) w := fun _ => by kernel_rfl
  refine callsD_of_wpS Tryd.func50 rfl fun c₀ cs hu => ?_
  have ht : (#[.pointer (some ⟨b1, 0, none⟩), .pointer (some ⟨b2, 0, none⟩)] ++ Array.replicate (Tryd.f50.ntmps - (#[Value.pointer (some ⟨b1, 0, none⟩), Value.pointer (some ⟨b2, 0, none⟩)] : Array Value).size) undef : Array Value) = #[.pointer (some ⟨b1, 0, none⟩), .pointer (some ⟨b2, 0, none⟩), undef, undef, undef, undef, undef, undef, undef, undef, undef] := by kernel_rfl
  rw [ht]
  apply wpS_seq
  apply wpS_region
  simp [wpOpsS, go_sem, recoverD, hu, Exit.thenS, hta]
  apply wpS_seq
  apply wpS_region
  simp [wpOpsS, go_sem, Exit.thenS]
  refine wpS_cond (t := false) (by simp [Act.eval]) ?_
  simp only [Bool.false_eq_true, if_false]
  refine wpS_of_wp (wp_skip ?_)
  cases c₀
  simp_all [bodyPostS, results, Tryd.results50]

/-- 55: the closure of 'beginning'. -/
theorem c55p (x : Int) (w : World) :
    CallsD Tryd.prog 55 #[] (.panicking [{ v := .iface 31 (.int .i64 x), recovered := false }]) w fun e u' w' =>
      e = .returned (.tuple #[]) ∧ u' = .panicking [{ v := .iface 31 (.int .i64 x), recovered := true }] ∧ w' = w := by
  refine callsD_of_wpS Tryd.func55 rfl fun c₀ cs hu => ?_
  apply wpS_region
  simp [wpOpsS, go_sem, recoverD, hu, Tryd.ntmps55, bodyPostS, results, Tryd.results55]
theorem c55r (w : World) :
    CallsD Tryd.prog 55 #[] .returning w fun e u' w' =>
      e = .returned (.tuple #[]) ∧ u' = .returning ∧ w' = w := by
  refine callsD_of_wpS Tryd.func55 rfl fun c₀ cs hu => ?_
  apply wpS_region
  cases c₀
  simp_all [wpOpsS, go_sem, recoverD, Tryd.ntmps55, bodyPostS, results, Tryd.results55]

theorem ret_b {a b : Bool} (h : a = b) : Ending.returned (.bool a) = .returned (.bool b) := by rw [h]
theorem ret_ib {k : IntKind} {a b : Int} {c d : Bool} (h : a = b) (h2 : c = d) : Ending.returned (.tuple #[.int k a, .bool c]) = .returned (.tuple #[.int k b, .bool d]) := by rw [h, h2]
/-- 32: validContext. -/
theorem c32 (sz vs here : Int) (w : World) :
    Calls Tryd.prog 32 #[.agg #[.int .i64 sz, .int .i64 vs, .int .i64 here]] w fun e w' => e = .returned (.bool (okB sz vs here)) ∧ Below w.heap.size w w' := by
  go_enter Tryd.func32, Tryd.ntmps32
  go_wp2_with (go_at_call 42; refine (c42 _ _).mono ?_; rintro e w' ⟨rfl, rfl⟩)
  all_goals
    go_ret
    refine ⟨ret_b ?_, (Below.refl _ _).alloc (Nat.le_refl _) _⟩
    show _ = okB sz vs here
    unfold okB
    generalize within here = b
    simp [*]
    try omega
/-- 28: unit, of a context that need not be one. -/
theorem c28w (c : Nat) (sz vs here : Int) (w : World) :
    Calls Tryd.prog 28 #[.int .u8 c, .agg #[.int .i64 sz, .int .i64 vs, .int .i64 here]] w fun e w' => (∃ x : Int, e = .returned (.tuple #[.int .i64 x, .bool (unitF c sz vs).isSome])) ∧ Below w.heap.size w w' := by
  go_enter Tryd.func28, Tryd.ntmps28
  go_wp2
  all_goals
    go_ret2
    refine ⟨⟨_, ret_ib rfl ?_⟩, (Below.refl _ _).alloc (Nat.le_refl _) _⟩
    simp only [unitF, *, if_true, Bool.false_eq_true, if_false, Option.isSome_some, Option.isSome_none]
/-- 15: Unit. -/
theorem c15s (c : Nat) (sz vs here n : Int) (w : World) (ho : okB sz vs here = true) (hu : unitF c sz vs = some n) :
    Calls Tryd.prog 15 #[.int .u8 c, .agg #[.int .i64 sz, .int .i64 vs, .int .i64 here]] w fun e w' => e = .returned (.tuple #[.int .i64 n, .int .i64 0]) ∧ Below w.heap.size w w' := by
  have hb := okB_iff.1 ho
  have HO := Lib.hid ho
  have HU := Lib.hid hu
  clear ho hu
  have h32 : ∀ w, Calls Tryd.prog 32 #[.agg #[.int .i64 sz, .int .i64 vs, .int .i64 here]] w fun e w' => e = .returned (.bool true) ∧ Below w.heap.size w w' := fun w => by
    have := c32 sz vs here w
    rw [HO.out] at this; exact this
  have H32 := Lib.hid h32
  clear h32
  go_enter Tryd.func15, Tryd.ntmps15
  go_wp2_with (first
    | (go_at_call 28; refine (c28s HU.out here _ hb.1 hb.2.1).mono ?_; rintro e w1 ⟨rfl, hb1⟩; obtain ⟨hc1, hf1⟩ := bcell hb1)
    | (go_at_call 32; refine (H32.out _).mono ?_; rintro e w2 ⟨rfl, hb2⟩))
  go_ret2
  exact ⟨rfl, below_trans (below_box hb1) hb2⟩
theorem c15n (c : Nat) (sz vs here : Int) (w : World) (hu : unitF c sz vs = none) :
    Calls Tryd.prog 15 #[.int .u8 c, .agg #[.int .i64 sz, .int .i64 vs, .int .i64 here]] w fun e w' => e = .returned (.tuple #[.int .i64 0, .int .i64 1]) ∧ Below w.heap.size w w' := by
  have h28 : ∀ w, Calls Tryd.prog 28 #[.int .u8 c, .agg #[.int .i64 sz, .int .i64 vs, .int .i64 here]] w fun e w' => (∃ x : Int, e = .returned (.tuple #[.int .i64 x, .bool false])) ∧ Below w.heap.size w w' := fun w => by
    have := c28w c sz vs here w
    rw [hu] at this; exact this
  have H28 := Lib.hid h28
  clear h28 hu
  go_enter Tryd.func15, Tryd.ntmps15
  go_wp2_with (first
    | (go_at_call 28; refine (H28.out _).mono ?_; rintro e w1 ⟨⟨x, rfl⟩, hb1⟩))
  go_ret2
  exact ⟨rfl, below_box hb1⟩
theorem c15x (c : Nat) (sz vs here : Int) (w : World) (ho : okB sz vs here = false) :
    Calls Tryd.prog 15 #[.int .u8 c, .agg #[.int .i64 sz, .int .i64 vs, .int .i64 here]] w fun e w' => e = .returned (.tuple #[.int .i64 0, .int .i64 1]) ∧ Below w.heap.size w w' := by
  rcases hu : unitF c sz vs with _ | n
  · exact c15n c sz vs here w hu
  have h28 : ∀ w, Calls Tryd.prog 28 #[.int .u8 c, .agg #[.int .i64 sz, .int .i64 vs, .int .i64 here]] w fun e w' => (∃ x : Int, e = .returned (.tuple #[.int .i64 x, .bool true])) ∧ Below w.heap.size w w' := fun w => by
    have := c28w c sz vs here w
    rw [hu] at this; exact this
  have h32 : ∀ w, Calls Tryd.prog 32 #[.agg #[.int .i64 sz, .int .i64 vs, .int .i64 here]] w fun e w' => e = .returned (.bool false) ∧ Below w.heap.size w w' := fun w => by
    have := c32 sz vs here w
    rw [ho] at this; exact this
  have H28 := Lib.hid h28
  have H32 := Lib.hid h32
  clear h28 hu h32 ho
  go_enter Tryd.func15, Tryd.ntmps15
  go_wp2_with (first
    | (go_at_call 28; refine (H28.out _).mono ?_; rintro e w1 ⟨⟨x, rfl⟩, hb1⟩; obtain ⟨hc1, hf1⟩ := bcell hb1)
    | (go_at_call 32; refine (H32.out _).mono ?_; rintro e w2 ⟨rfl, hb2⟩))
  go_ret2
  exact ⟨rfl, below_trans (below_box hb1) hb2⟩

theorem c15a (c : Nat) (sz vs here n : Int) (w : World) (h : argF c sz vs here = some n) :
    Calls Tryd.prog 15 #[.int .u8 c, .agg #[.int .i64 sz, .int .i64 vs, .int .i64 here]] w fun e w' => e = .returned (.tuple #[.int .i64 n, .int .i64 0]) ∧ Below w.heap.size w w' := by
  unfold argF at h
  by_cases ho : okB sz vs here = true
  · rw [if_pos ho] at h; exact c15s c sz vs here n w ho h
  · rw [if_neg ho] at h; cases h
theorem c15b (c : Nat) (sz vs here : Int) (w : World) (h : argF c sz vs here = none) :
    Calls Tryd.prog 15 #[.int .u8 c, .agg #[.int .i64 sz, .int .i64 vs, .int .i64 here]] w fun e w' => e = .returned (.tuple #[.int .i64 0, .int .i64 1]) ∧ Below w.heap.size w w' := by
  unfold argF at h
  by_cases ho : okB sz vs here = true
  · rw [if_pos ho] at h; exact c15n c sz vs here w h
  · exact c15x c sz vs here w (by simpa using ho)
end Go.Proofs.YtonhglhdbpmnhaaDoor
