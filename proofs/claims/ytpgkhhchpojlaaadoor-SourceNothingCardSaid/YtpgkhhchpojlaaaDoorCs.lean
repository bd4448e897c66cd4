/- The code's calls at a stack that is none, or was not made. -/
import Derived.Test.YtpgkhhchpojlaaaDoorMn
import Derived.Test.YtpgkhhchpojlaaaDoorCr
namespace Go.Proofs.YtpgkhhchpojlaaaDoor
open Go.RowKit Go.Maps Go.WideMaps

attribute [local go_sem] Oper.semAt_some
/-- None, or not made. -/
def NoStk (w : World) (p : Option Addr) : Prop := p = none ∨ ∃ g, p = some ⟨g, 0, none⟩ ∧ Blk w g 50 #[.slice none 0 0]
section
variable {w w' : World} {p : Option Addr}
theorem NoStk.on (h : NoStk w p) (hb : Below w.heap.size w w') : NoStk w' p := by
  rcases h with rfl | ⟨g, rfl, h⟩
  · exact .inl rfl
  · exact .inr ⟨g, rfl, h.below hb h.lt⟩
theorem zUnmade (h : NoStk w p) : Calls Tryd.prog 25 #[.pointer p] w fun e w' => e = .returned (.bool true) ∧ w' = w := by
  rcases h with rfl | ⟨g, rfl, h⟩
  · go_enter Tryd.func25, Tryd.ntmps25
    go_wp2_with fail
    go_ret
    exact ⟨rfl, rfl⟩
  · have c0 := h.cell 0
    simp only [List.getElem?_toArray, List.getElem?_cons_zero] at c0
    clear h
    have heq : ∀ w, (binOp .eql 48 (.slice none 0 0) (.slice none 0 0)).run Tryd.prog w = .ok (.bool true) w := fun w => Lib.run_eql_slice_nil w _ _ none 0 0 0 0 Tryd.underlying48
    go_enter Tryd.func25, Tryd.ntmps25
    go_wp2_with fail
    go_ret
    exact ⟨rfl, rfl⟩
theorem zDepth (h : NoStk w p) : Calls Tryd.prog 13 #[.pointer p] w fun e w' => e = .returned (.int .i64 0) ∧ w' = w := by
  have HZ := Lib.hid (zUnmade h)
  clear h
  go_enter Tryd.func13, Tryd.ntmps13
  go_wp2_with (go_at_call 25; refine HZ.out.mono ?_; rintro e w1 ⟨rfl, hw⟩; rw [hw]; clear hw)
  go_ret
  exact ⟨rfl, rfl⟩
set_option maxRecDepth 100000 in
set_option maxHeartbeats 1000000 in
/-- The frames' iterator, where there is none. -/
theorem zIter (l Bn : Nat) (J Jx : List Nat → World → Prop) (W : World) (hBn : W.cell? ⟨Bn, 0, none⟩ = some (.pointer p)) (h : NoStk W p) (h0 : J [] W) :
    CallsIn Fence.wide 2 Tryd.prog 59 #[.func (.yield l) #[] #[], .pointer (some ⟨Bn, 0, none⟩)] W fun e W' => (∃ v, e = .returned v) ∧
      ((∃ ys, ys = [] ∧ J ys W') ∨ (∃ pre, False ∧ Jx pre W')) := by
  have HD := Lib.hid (zDepth h)
  clear h
  refine callsIn_of_wp Tryd.func59 rfl trivial ?_ rfl
  simp only [Tryd.ntmps59, List.size_toArray, List.length_cons, List.length_nil, Nat.reduceAdd, Nat.reduceSub, Array.replicate_succ, Array.replicate_zero, List.push_toArray, List.append_toArray, List.nil_append, List.cons_append]
  gi_wp2_with (refine ⟨trivial, ?_⟩; gi_at_call 13; refine (callsIn_wide.2 HD.out).mono ?_; rintro e w' ⟨rfl, hw⟩; rw [hw]; clear hw)
  gi_loopw [3] (fun v wr => v = .int .i64 (-1) ∧ J [] wr) (fun _ _ => 0)
  case atStart => exact ⟨rfl, h0⟩
  case round =>
    obtain ⟨rfl, hJs⟩ := hrel
    gi_wp2
    go_end0
    exact ⟨⟨_, rfl⟩, .inl ⟨[], rfl, hJs⟩⟩
theorem zFromTop (w : World) :
    Calls Tryd.prog 49 #[.pointer p] w fun e w' => e = .returned (.func (.func 59) #[] #[.pointer (some ⟨w.heap.size, 0, none⟩)]) ∧ w' = w.alloc (.cells #[.pointer p] 25) := by
  go_enter Tryd.func49, Tryd.ntmps49
  go_wp2_with fail
  go_ret
  exact ⟨rfl, rfl⟩
theorem zStops (Bn : Nat) (w : World) (hc : w.cell? ⟨Bn, 0, none⟩ = some (.pointer p)) (h : NoStk w p) :
    SeqStopsK Fence.wide 2 Tryd.prog 59 #[.pointer (some ⟨Bn, 0, none⟩)] (fun _ : Nat => #[.int .i64 0, .pointer none]) (KpP (fun _ => False)) (fun ys => ys = []) (fun _ => False) 0 w := fun l J Jx W hW _ _ _ h0 =>
  zIter l Bn J Jx W ((hW.cell (p := ⟨Bn, 0, none⟩) (cell_lt hc)).trans hc) (h.on hW) h0
set_option maxRecDepth 100000 in
set_option maxHeartbeats 1000000 in
theorem zTopmost (k : Nat) (h : NoStk w p) :
    Calls Tryd.prog 33 #[.pointer p, .func (.func k) #[] #[]] w fun e w' => e = .returned (.int .i64 (-1)) ∧ Below w.heap.size w w' := by
  refine (callsIn_wide (n := 3)).1 ?_
  refine callsIn_of_wp_marks Tryd.func33 rfl trivial ?_ rfl
  simp only [Tryd.ntmps33, List.size_toArray, List.length_cons, List.length_nil, Nat.reduceAdd, Nat.reduceSub, Array.replicate_succ, Array.replicate_zero, List.push_toArray, List.append_toArray, List.nil_append, List.cons_append]
  gi_wp2_with (refine ⟨trivial, ?_⟩; gi_at_call 49; refine (callsIn_wide.2 (zFromTop _)).mono ?_; rintro e w' ⟨rfl, rfl⟩)
  obtain ⟨w0, hw0⟩ : ∃ w0, w0 = ((w.alloc (.cells #[.func (.func k) #[] #[]] 64)).alloc (.cells #[.int .i64 0] 3)).alloc (.cells #[.pointer p] 25) := ⟨_, rfl⟩
  have hB1 : Below w.heap.size w (w.alloc (.cells #[.func (.func k) #[] #[]] 64)) := (Below.refl _ _).alloc (Nat.le_refl _) _
  have hB2 := hB1.alloc hB1.size (.cells #[.int .i64 0] 3)
  have hB0 : Below w.heap.size w w0 := by rw [hw0]; exact hB2.alloc hB2.size _
  have hs0 : w0.heap.size = w.heap.size + 3 := by rw [hw0]; simp
  have b4 : Blk w0 (w.heap.size + 1) 3 #[.int .i64 0] := by rw [hw0]; have := (Blk.new (w.alloc (.cells #[.func (.func k) #[] #[]] 64)) 3 #[.int .i64 0]).alloc (.cells #[.pointer p] 25); rwa [World.size_alloc] at this
  have b5 : Blk w0 (w.heap.size + 1 + 1) 25 #[.pointer p] := by rw [hw0]; have := Blk.new ((w.alloc (.cells #[.func (.func k) #[] #[]] 64)).alloc (.cells #[.int .i64 0] 3)) 25 #[.pointer p]; rwa [World.size_alloc, World.size_alloc] at this
  rw [← hw0]
  refine wpIn_rangeFunc_ownF rfl (by omega) (gf := 59) (lb := #[.pointer (some ⟨w.heap.size + 1 + 1, 0, none⟩)]) rfl trivial (enters_of Tryd.func59 (by kernel_rfl) rfl)
    (zStops (w.heap.size + 1 + 1) w0 (b5.cell 0) (h.on hB0)) (fun h k => KpP.t h k) (KpP.b (fun i hi => hi.elim)) (Below.refl _ _) (fun _ => rfl)
    (fun _ W => Below w0.heap.size w0 W) (fun _ _ _ => False)
    (ownFrom_below (Nat.le_refl _) (Nat.le_refl _)) (fun _ _ _ _ _ hs _ _ => hs)
    (Below.refl _ _) (fun _ => { tmps := #[.pointer p, .func (.func k) #[] #[], undef, .pointer (some ⟨w.heap.size, 0, none⟩), .pointer (some ⟨w.heap.size + 1, 0, none⟩), .int .i64 0, .pointer none, .pointer p, .func (.func 59) #[] #[.pointer (some ⟨w.heap.size + 1 + 1, 0, none⟩)], .int .i64 0, .pointer none, undef, undef, undef, undef], defers := [] }) ?assign ?body ?done ?stop
  case assign =>
    intro l i W K hK
    gi_wp2
    exact hK
  case body => exact fun _ _ _ _ _ hl => absurd hl (Nat.not_lt_zero _)
  case done =>
    rintro D ys W hD _ hB hK
    have hb4 := b4.below hB b4.lt
    have g0 := hb4.cell 0
    have g1 := hb4.frozen 0
    simp only [List.getElem?_toArray, List.getElem?_cons_zero] at g0
    have hBw := hB0.trans (hB.mono hB0.size)
    gi_wp2
    have hK' := (KeepsOthers.setCell W ⟨w.heap.size + 1, 0, none⟩ (.int .i64 (-1))).same D _ hK rfl
    refine ⟨by simp, .inl ⟨_, _, rfl, run_takeDeferred hK', ?_⟩⟩
    have hc5 := cell_kept (World.cell?_setCell_same' W ⟨w.heap.size + 1, 0, none⟩ (.int .i64 (-1)) (by rw [g0]; rfl)) (grownBy_putObj' _ D (.deferred none)) (fun r e => by cases e; exact ⟨_, hK', rfl⟩)
    refine ⟨.int .i64 (-1), ?_, rfl, (hBw.setCell (p := ⟨w.heap.size + 1, 0, none⟩) (by simp) _).trans (belowK_b (w := w) (Nat.le_refl _) _ D _ _ (by omega) hK' rfl rfl)⟩
    simp [results, Tryd.f33, go_sem, hc5]
  case stop =>
    rintro D c pre W _ _ h _
    exact h.elim
theorem zCopy (h : NoStk w p) : Calls Tryd.prog 23 #[.pointer p] w fun e w' => e = .returned (.pointer none) ∧ Below w.heap.size w w' := by
  have HZ := Lib.hid (zUnmade h)
  clear h
  go_enter Tryd.func23, Tryd.ntmps23
  go_wp2_with (go_at_call 25; refine HZ.out.mono ?_; rintro e w1 ⟨rfl, hw⟩; rw [hw]; clear hw)
  go_ret
  exact ⟨rfl, Below.refl _ _⟩
theorem zReturn (all : Bool) (h : NoStk w p) : Calls Tryd.prog 30 #[.pointer p, .bool all] w fun e w' => e = .returned (.int .i64 1) ∧ Below w.heap.size w w' := by
  have HZ := Lib.hid (zUnmade h)
  clear h
  go_enter Tryd.func30, Tryd.ntmps30
  go_wp2_with (go_at_call 25; refine HZ.out.mono ?_; rintro e w1 ⟨rfl, hw⟩; rw [hw]; clear hw)
  go_ret
  exact ⟨rfl, Below.refl _ _⟩
theorem zShift (n : Int) (h : NoStk w p) : Calls Tryd.prog 32 #[.pointer p, .int .i64 n] w fun e w' => e = .returned (.int .i64 1) ∧ Below w.heap.size w w' := by
  have HZ := Lib.hid (zUnmade h)
  clear h
  go_enter Tryd.func32, Tryd.ntmps32
  go_wp2_with (go_at_call 25; refine HZ.out.mono ?_; rintro e w1 ⟨rfl, hw⟩; rw [hw]; clear hw)
  go_ret
  exact ⟨rfl, Below.refl _ _⟩
theorem zWait (A : Option Addr) (k c : Nat) (h : NoStk w p) : Calls Tryd.prog 18 #[.pointer p, .slice A k c] w fun e w' => e = .returned (.int .i64 1) ∧ Below w.heap.size w w' := by
  have HZ := Lib.hid (zUnmade h)
  clear h
  go_enter Tryd.func18, Tryd.ntmps18
  go_wp2_with (go_at_call 25; refine HZ.out.mono ?_; rintro e w1 ⟨rfl, hw⟩; rw [hw]; clear hw)
  go_ret
  exact ⟨rfl, Below.refl _ _⟩
theorem zMacro (n : ByteArray) (A : Option Addr) (k c : Nat) (A2 : Option Addr) (k2 c2 : Nat) (h : NoStk w p) : Calls Tryd.prog 17 #[.pointer p, .string n, .slice A k c, .slice A2 k2 c2] w fun e w' => e = .returned (.int .i64 1) ∧ Below w.heap.size w w' := by
  have HZ := Lib.hid (zUnmade h)
  clear h
  go_enter Tryd.func17, Tryd.ntmps17
  go_wp2_with (go_at_call 25; refine HZ.out.mono ?_; rintro e w1 ⟨rfl, hw⟩; rw [hw]; clear hw)
  go_ret
  exact ⟨rfl, Below.refl _ _⟩
theorem zFile (n t : ByteArray) (ht : t.size ≤ 1000000) (h : NoStk w p) : Calls Tryd.prog 11 #[.pointer p, .string n, .string t] w fun e w' => e = .returned (.int .i64 1) ∧ Below w.heap.size w w' := by
  have HF := Lib.hid (cFileFrame n t ht w)
  have HZ := Lib.hid (fun (w1 : World) (hb : Below w.heap.size w w1) => zUnmade (h.on hb))
  clear h
  go_enter Tryd.func11, Tryd.ntmps11
  go_wp2_with (first
    | (go_at_call 24; refine HF.out.mono ?_; rintro e w1 ⟨A, k, c, rfl, _, hb1⟩; have HB := Lib.hid (hb1.alloc hb1.size (.cells #[.int .i64 1, .string n, .slice A k c, .int .i64 0, .slice none 0 0] 57)))
    | (go_at_call 25; refine (HZ.out _ HB.out).mono ?_; rintro e w2 ⟨rfl, hw⟩; rw [hw]; clear hw))
  go_ret
  exact ⟨rfl, HB.out⟩
theorem zInstead (n t : ByteArray) (ht : t.size ≤ 1000000) (h : NoStk w p) : Calls Tryd.prog 31 #[.pointer p, .string n, .string t] w fun e w' => e = .returned (.int .i64 1) ∧ Below w.heap.size w w' := by
  have HF := Lib.hid (cFileFrame n t ht w)
  have HZ := Lib.hid (fun (w1 : World) (hb : Below w.heap.size w w1) => zUnmade (h.on hb))
  clear h
  go_enter Tryd.func31, Tryd.ntmps31
  go_wp2_with (first
    | (go_at_call 24; refine HF.out.mono ?_; rintro e w1 ⟨A, k, c, rfl, _, hb1⟩; have HB := Lib.hid (hb1.alloc hb1.size (.cells #[.int .i64 1, .string n, .slice A k c, .int .i64 0, .slice none 0 0] 57)))
    | (go_at_call 25; refine (HZ.out _ HB.out).mono ?_; rintro e w2 ⟨rfl, hw⟩; rw [hw]; clear hw))
  go_ret
  exact ⟨rfl, HB.out⟩
theorem zArgs (h : NoStk w p) : Calls Tryd.prog 22 #[.pointer p] w fun e w' => (∃ A c, e = .returned (.slice A 0 c)) ∧ Below w.heap.size w w' := by
  have HT := Lib.hid (fun k => zTopmost k h)
  clear h
  go_enter Tryd.func22, Tryd.ntmps22
  go_wp2_with (go_at_call 33; refine (HT.out _).mono ?_; rintro e w1 ⟨rfl, hb1⟩)
  go_ret
  exact ⟨⟨_, _, rfl⟩, hb1⟩
theorem zName (h : NoStk w p) : Calls Tryd.prog 21 #[.pointer p] w fun e w' => e = .returned (.string ⟨#[]⟩) ∧ Below w.heap.size w w' := by
  have HT := Lib.hid (fun k => zTopmost k h)
  clear h
  go_enter Tryd.func21, Tryd.ntmps21
  go_wp2_with (go_at_call 33; refine (HT.out _).mono ?_; rintro e w1 ⟨rfl, hb1⟩)
  go_ret
  exact ⟨rfl, hb1⟩
theorem zLine (h : NoStk w p) : Calls Tryd.prog 20 #[.pointer p] w fun e w' => e = .returned (.int .i64 0) ∧ Below w.heap.size w w' := by
  have HT := Lib.hid (fun k => zTopmost k h)
  clear h
  go_enter Tryd.func20, Tryd.ntmps20
  go_wp2_with (go_at_call 33; refine (HT.out _).mono ?_; rintro e w1 ⟨rfl, hb1⟩)
  go_ret
  exact ⟨rfl, hb1⟩
set_option maxRecDepth 100000 in
theorem zNext (h : NoStk w p) : Calls Tryd.prog 14 #[.pointer p] w fun e w' => NOut e ∧ Below w.heap.size w w' := by
  have hB0 : Below w.heap.size w (w.alloc (.cells #[.string ⟨#[]⟩, .bool false, .int .i64 0, .int .i64 0, .slice none 0 0] 36)) := (Below.refl _ _).alloc (Nat.le_refl _) _
  have HZ := Lib.hid (zUnmade (h.on hB0))
  have hr0 := Blk.new w 36 #[.string ⟨#[]⟩, .bool false, .int .i64 0, .int .i64 0, .slice none 0 0]
  have p0 := hr0.cell 0
  have p1 := hr0.cell 1
  have p2 := hr0.cell 2
  have p3 := hr0.cell 3
  have p4 := hr0.cell 4
  simp only [List.getElem?_toArray, List.getElem?_cons_zero, List.getElem?_cons_succ] at p0 p1 p2 p3 p4
  have HP := Lib.hid (And.intro p0 (And.intro p1 (And.intro p2 (And.intro p3 p4))))
  have HB := Lib.hid hB0
  clear h hr0 hB0 p0 p1 p2 p3 p4
  go_enter Tryd.func14, Tryd.ntmps14
  go_wp2_with (go_at_call 25; refine HZ.out.mono ?_; rintro e w1 ⟨rfl, hw⟩; rw [hw]; clear hw)
  obtain ⟨p0, p1, p2, p3, p4⟩ := HP.out
  exact bodyPost_ret (v := .tuple #[.agg #[.string ⟨#[]⟩, .bool false, .int .i64 0, .int .i64 0, .slice none 0 0], .int .i64 1]) (by simp [results, Tryd.results14, go_sem, p0, p1, p2, p3, p4]) rfl ⟨⟨none, 0, rfl, no_boxes⟩, HB.out⟩
set_option maxRecDepth 100000 in
theorem zPeek (h : NoStk w p) : Calls Tryd.prog 29 #[.pointer p] w fun e w' => NOut e ∧ Below w.heap.size w w' := by
  have hB0 : Below w.heap.size w (w.alloc (.cells #[.string ⟨#[]⟩, .bool false, .int .i64 0, .int .i64 0, .slice none 0 0] 36)) := (Below.refl _ _).alloc (Nat.le_refl _) _
  have HZ := Lib.hid (zUnmade (h.on hB0))
  have hr0 := Blk.new w 36 #[.string ⟨#[]⟩, .bool false, .int .i64 0, .int .i64 0, .slice none 0 0]
  have p0 := hr0.cell 0
  have p1 := hr0.cell 1
  have p2 := hr0.cell 2
  have p3 := hr0.cell 3
  have p4 := hr0.cell 4
  simp only [List.getElem?_toArray, List.getElem?_cons_zero, List.getElem?_cons_succ] at p0 p1 p2 p3 p4
  have HP := Lib.hid (And.intro p0 (And.intro p1 (And.intro p2 (And.intro p3 p4))))
  have HB := Lib.hid hB0
  clear h hr0 hB0 p0 p1 p2 p3 p4
  go_enter Tryd.func29, Tryd.ntmps29
  go_wp2_with (go_at_call 25; refine HZ.out.mono ?_; rintro e w1 ⟨rfl, hw⟩; rw [hw]; clear hw)
  obtain ⟨p0, p1, p2, p3, p4⟩ := HP.out
  exact bodyPost_ret (v := .tuple #[.agg #[.string ⟨#[]⟩, .bool false, .int .i64 0, .int .i64 0, .slice none 0 0], .int .i64 1]) (by simp [results, Tryd.results29, go_sem, p0, p1, p2, p3, p4]) rfl ⟨⟨none, 0, rfl, no_boxes⟩, HB.out⟩
end
theorem nMeth : NMeth NoStk where
  on := fun h hb => h.on hb
  copy := fun h => zCopy h
  file := fun n t _ ht h => zFile n t ht h
  macro_ := fun n K0 v v2 ls ags _ _ _ hv hv2 _ h => by
    obtain ⟨A, c, rfl, _⟩ := hv
    obtain ⟨A2, c2, rfl, _⟩ := hv2
    exact zMacro n A _ c A2 _ c2 h
  wait := fun K0 v ls _ hv _ h => by
    obtain ⟨A, c, rfl, _⟩ := hv
    exact zWait A _ c h
  next := fun h => zNext h
  peek := fun h => zPeek h
  return_ := fun all h => zReturn all h
  instead := fun n t _ ht h => zInstead n t ht h
  shift := fun n _ h => zShift n h
  args := fun h => zArgs h
  name := fun h => zName h
  line := fun h => zLine h
  depth := fun h => (zDepth h).mono fun e w' ⟨h1, h2⟩ => ⟨h1, by rw [h2]; exact Below.refl _ _⟩
end Go.Proofs.YtpgkhhchpojlaaaDoor
