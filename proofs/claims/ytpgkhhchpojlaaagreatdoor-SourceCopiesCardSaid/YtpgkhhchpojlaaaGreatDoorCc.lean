/- Walks of the code's stack: the frames from the topmost down; the topmost that is as asked; the lowest macro. Walk of the code's stack: the lowest macro. -/
import Derived.Test.YtpgkhhchpojlaaaGreatDoorCa
import Derived.RangeFuncFrom
import Derived.RangeFuncNested
import Derived.RangeFuncBound
import Derived.RangeFuncCalls
import Derived.RangeFuncLeaves
import Derived.Shelf.Abstract
import Derived.Shelf.AbstractIn
import Derived.Shelf.RegionOpen
import Derived.WalkKit
import Derived.OwnWalkIn
import Derived.TacticsInMore
import Derived.LoopNIn
import Derived.LoopIn
namespace Go.Proofs.YtpgkhhchpojlaaaGreatDoor
open Go.RowKit Go.Maps Go.WideMaps

attribute [local go_sem] Oper.semAt_some
/-- The numbers from n - 1 down. -/
def down : Nat → List Nat
  | 0 => []
  | n + 1 => n :: down n
/-- What blocks a round must keep that the frames be gone over. -/
def KpP (P : Nat → Prop) (A B : World) : Prop := ∀ i, P i → B.heap[i]? = A.heap[i]?
theorem KpP.t {P : Nat → Prop} {A B C : World} (h : KpP P A B) (k : KpP P B C) : KpP P A C := fun i hi => (k i hi).trans (h i hi)
theorem KpP.b {P : Nat → Prop} {w : World} (hP : ∀ i, P i → i < w.heap.size) (W : World) (l : Nat) (o o' : Obj) (hl : w.heap.size ≤ l) (_ : W.heap[l]? = some o) (_ : o.isCells = false) (_ : o.isWalk = false) : KpP P W (W.putObj l o') :=
  fun i hi => World.putObj_heap_other (by have := hP i hi; omega)
theorem KpP.below {P : Nat → Prop} {A B : World} {n : Nat} (h : Below n A B) (hP : ∀ i, P i → i < n) : KpP P A B := fun i hi => h.block i (hP i hi)
theorem KpP.cell {P : Nat → Prop} {A B : World} (h : KpP P A B) {g o : Nat} (hg : P g) : B.cell? ⟨g, o, none⟩ = A.cell? ⟨g, o, none⟩ := cell_same (p := ⟨g, o, none⟩) (h g hg)
theorem others_below {W W' : World} (h : Below W.heap.size W W') : KeepsOthers W W' := ⟨h.size, fun k _o hk _ => (h.block k (Array.getElem?_eq_some_iff.1 hk).1).trans hk⟩
abbrev Below_ (n : Nat) := { i : Nat // i < n }
abbrev encF (r : Nat) {n : Nat} (i : Below_ n) : Array Value := #[.int .i64 ((i.1 : Nat) : Int), .pointer (some ⟨r, i.1 * 5, none⟩)]
theorem down_parts : ∀ {n : Nat} {pre : List Nat} {i : Nat} {rest : List Nat}, down n = pre ++ i :: rest → i < n ∧ rest = down i ∧ ∀ j, i < j → j < n → j ∈ pre
  | 0, pre, i, rest, h => by cases pre <;> cases h
  | n + 1, [], i, rest, h => by
    injection h with h1 h2
    subst h1
    exact ⟨Nat.lt_succ_self _, h2.symm, fun j h1 h2 => by omega⟩
  | n + 1, q :: pre, i, rest, h => by
    injection h with h1 h2
    subst h1
    obtain ⟨h3, h4, h5⟩ := down_parts h2
    refine ⟨by omega, h4, fun j hj hn => ?_⟩
    by_cases e : j = n
    · subst e
      exact List.mem_cons_self ..
    · exact List.mem_cons_of_mem _ (h5 j hj (by omega))
theorem mem_down : ∀ {n j : Nat}, j < n → j ∈ down n
  | 0, j, h => absurd h (Nat.not_lt_zero _)
  | n + 1, j, h => by
    by_cases e : j = n
    · subst e
      exact List.mem_cons_self ..
    · exact List.mem_cons_of_mem _ (mem_down (by omega))
set_option maxRecDepth 100000 in
set_option maxHeartbeats 1000000 in
/-- The frames' iterator, for every body that keeps the stack. -/
theorem cIter (l Bn x r zn cap : Nat) (J Jx : List (Below_ zn) → World → Prop) (hzn : zn ≤ 50) (_hzc : zn ≤ cap)
    (hY : ∀ pre (i : Below_ zn) W, J pre W → pre.length < zn → YieldAt Fence.wide 1 Tryz.prog l (encF r i) W fun e W' =>
      (e = .returned (.bool true) ∧ J (pre ++ [i]) W' ∧ KpP (fun i => i = Bn ∨ i = x) W W') ∨ (e = .returned (.bool false) ∧ Jx (pre ++ [i]) W'))
    (W : World) (hBn : W.cell? ⟨Bn, 0, none⟩ = some (.pointer (some ⟨x, 0, none⟩))) (hx : W.cell? ⟨x, 0, none⟩ = some (.slice (some ⟨r, 0, none⟩) zn cap)) (h0 : J [] W) :
    CallsIn Fence.wide 2 Tryz.prog 82 #[.func (.yield l) #[] #[], .pointer (some ⟨Bn, 0, none⟩)] W fun e W' => (∃ v, e = .returned v) ∧
      ((∃ ys, ys.map (·.1) = down zn ∧ J ys W') ∨ (∃ pre, pre.map (·.1) <+: down zn ∧ Jx pre W')) := by
  have HD := Lib.hid (cDepth ⟨r, 0, none⟩ zn cap hx)
  refine callsIn_of_wp Tryz.func82 rfl trivial ?_ rfl
  simp only [Tryz.ntmps82, List.size_toArray, List.length_cons, List.length_nil, Nat.reduceAdd, Nat.reduceSub, Array.replicate_succ, Array.replicate_zero, List.push_toArray, List.append_toArray, List.nil_append, List.cons_append]
  gi_wp2_with (refine ⟨trivial, ?_⟩; gi_at_call 13; refine (callsIn_wide.2 HD.out).mono ?_; rintro e w' ⟨rfl, rfl⟩)
  gi_loopw [3] (fun p wr => ∃ (pre : List (Below_ zn)) (m : Nat) (k : Int), p = .int .i64 k ∧ k = (m : Int) - 1 ∧ down zn = pre.map (·.1) ++ down m ∧ m + pre.length = zn ∧ wr.cell? ⟨Bn, 0, none⟩ = some (.pointer (some ⟨x, 0, none⟩)) ∧ wr.cell? ⟨x, 0, none⟩ = some (.slice (some ⟨r, 0, none⟩) zn cap) ∧ J pre wr)
    (fun p _ => (intOf p + 1).toNat)
  case atStart =>
    exact ⟨[], zn, _, rfl, by go_num, rfl, by simp, hBn, hx, h0⟩
  case round =>
    obtain ⟨pre, m, k, rfl, hk, hd, hm, hb, hc, hJs⟩ := hrel
    cases m with
    | zero =>
      obtain rfl : k = -1 := by omega
      clear hk
      gi_wp2
      go_end0
      exact ⟨⟨_, rfl⟩, .inl ⟨pre, by rw [hd]; exact (List.append_nil _).symm, hJs⟩⟩
    | succ m =>
      obtain rfl : k = (m : Nat) := by omega
      obtain ⟨fn, tmps, assign, body, hy, hR⟩ := hY pre ⟨m, by omega⟩ wr hJs (by omega)
      dsimp only [encF] at hy
      have hlt : (m : Int) < (zn : Nat) := by omega
      clear hk
      gi_wp2
      refine hR.mono ?_
      rintro e W3 (⟨rfl, hJ3, hk3⟩ | ⟨rfl, hJx3⟩)
      · have hb3 := (hk3.cell (o := 0) (.inl rfl)).trans hb
        have hc3 := (hk3.cell (o := 0) (.inr rfl)).trans hc
        gi_wp2
        go_roundw
        case rel => exact ⟨pre ++ [⟨m, by omega⟩], m, _, rfl, by go_num, by rw [hd, List.map_append, List.append_assoc]; rfl, by simp; omega, hb3, hc3, hJ3⟩
        case measure => simp [intOf]
      · gi_wp2
        refine bodyPost_ret (results_none rfl _ _ _) rfl ?_
        exact ⟨⟨_, rfl⟩, .inr ⟨pre ++ [⟨m, by omega⟩], ⟨down m, by rw [hd, List.map_append, List.append_assoc]; rfl⟩, hJx3⟩⟩
/-- fromTop: the receiver is boxed; the function value has captured the box. -/
theorem cFromTop (x : Nat) (w : World) :
    Calls Tryz.prog 71 #[.pointer (some ⟨x, 0, none⟩)] w fun e w' => e = .returned (.func (.func 82) #[] #[.pointer (some ⟨w.heap.size, 0, none⟩)]) ∧ w' = w.alloc (.cells #[.pointer (some ⟨x, 0, none⟩)] 25) := by
  go_enter Tryz.func71, Tryz.ntmps71
  go_wp2_with fail
  go_ret
  exact ⟨rfl, rfl⟩
/-- The iterator stops. -/
theorem cStops (Bn x r zn cap : Nat) (w : World) (hzn : zn ≤ 50) (hzc : zn ≤ cap) (hc : w.cell? ⟨Bn, 0, none⟩ = some (.pointer (some ⟨x, 0, none⟩))) (hx : w.cell? ⟨x, 0, none⟩ = some (.slice (some ⟨r, 0, none⟩) zn cap)) :
    SeqStopsK Fence.wide 2 Tryz.prog 82 #[.pointer (some ⟨Bn, 0, none⟩)] (fun i : Below_ zn => encF r i) (KpP (fun i => i = Bn ∨ i = x)) (fun ys => ys.map (·.1) = down zn) (fun pre => pre.map (·.1) <+: down zn) zn w := fun l J Jx W hW _ _ hY h0 =>
  cIter l Bn x r zn cap J Jx hzn hzc hY W ((hW.cell (p := ⟨Bn, 0, none⟩) (cell_lt hc)).trans hc) ((hW.cell (p := ⟨x, 0, none⟩) (cell_lt hx)).trans hx) h0
section
variable {U K : Nat → Prop} {w w' : World} {x r cap : Nat} {zs : List Fv} {fs : List Fr}
set_option maxRecDepth 100000 in
set_option maxHeartbeats 1000000 in
theorem cTopmost (h : CK U K w x zs r cap) (k : Nat) (p : Fr → Bool) (ek : ∀ args w, (callFunc k args).run Tryz.prog w = .ok (.enter k args) w) (hp : Asks k p) :
    Calls Tryz.prog 49 #[.pointer (some ⟨x, 0, none⟩), .func (.func k) #[] #[]] w fun e w' => e = .returned (.int .i64 ((topN p (zs.map (·.1)) : Nat) - 1 : Int)) ∧ Below w.heap.size w w' := by
  refine (callsIn_wide (n := 3)).1 ?_
  refine callsIn_of_wp_marks Tryz.func49 rfl trivial ?_ rfl
  simp only [Tryz.ntmps49, List.size_toArray, List.length_cons, List.length_nil, Nat.reduceAdd, Nat.reduceSub, Array.replicate_succ, Array.replicate_zero, List.push_toArray, List.append_toArray, List.nil_append, List.cons_append]
  gi_wp2_with (refine ⟨trivial, ?_⟩; gi_at_call 71; refine (callsIn_wide.2 (cFromTop x _)).mono ?_; rintro e w' ⟨rfl, rfl⟩)
  obtain ⟨w0, hw0⟩ : ∃ w0, w0 = ((w.alloc (.cells #[.func (.func k) #[] #[]] 71)).alloc (.cells #[.int .i64 0] 3)).alloc (.cells #[.pointer (some ⟨x, 0, none⟩)] 25) := ⟨_, rfl⟩
  have hB1 : Below w.heap.size w (w.alloc (.cells #[.func (.func k) #[] #[]] 71)) := (Below.refl _ _).alloc (Nat.le_refl _) _
  have hB2 := hB1.alloc hB1.size (.cells #[.int .i64 0] 3)
  have hB0 : Below w.heap.size w w0 := by rw [hw0]; exact hB2.alloc hB2.size _
  have hs0 : w0.heap.size = w.heap.size + 3 := by rw [hw0]; simp
  have b3 : Blk w0 w.heap.size 71 #[.func (.func k) #[] #[]] := by rw [hw0]; exact ((Blk.new _ _ _).alloc _).alloc _
  have b4 : Blk w0 (w.heap.size + 1) 3 #[.int .i64 0] := by rw [hw0]; have := (Blk.new (w.alloc (.cells #[.func (.func k) #[] #[]] 71)) 3 #[.int .i64 0]).alloc (.cells #[.pointer (some ⟨x, 0, none⟩)] 25); rwa [World.size_alloc] at this
  have b5 : Blk w0 (w.heap.size + 1 + 1) 25 #[.pointer (some ⟨x, 0, none⟩)] := by rw [hw0]; have := Blk.new ((w.alloc (.cells #[.func (.func k) #[] #[]] 71)).alloc (.cells #[.int .i64 0] 3)) 25 #[.pointer (some ⟨x, 0, none⟩)]; rwa [World.size_alloc, World.size_alloc] at this
  have h0 := h.below hB0
  rw [← hw0]
  refine wpIn_rangeFunc_ownF rfl (by omega) (gf := 82) (lb := #[.pointer (some ⟨w.heap.size + 1 + 1, 0, none⟩)]) rfl trivial (enters_of Tryz.func82 (by kernel_rfl) rfl)
    (cStops (w.heap.size + 1 + 1) x r zs.length cap w0 h0.len h0.cap_.1 (b5.cell 0) h0.c0) (fun h k => KpP.t h k) (KpP.b (fun i hi => by rcases hi with rfl | rfl; exact b5.lt; exact h0.blk.lt)) (Below.refl _ _) (fun _ => rfl)
    (fun pre W => (∀ i ∈ pre, ∀ z, zs[i.1]? = some z → p z.1 = false) ∧ Below w0.heap.size w0 W)
    (fun c pre W => (c = .ret ∧ ∃ (q : List (Below_ zs.length)) (i : Below_ zs.length), pre = q ++ [i] ∧ (∀ i ∈ q, ∀ z, zs[i.1]? = some z → p z.1 = false) ∧ (∀ z, zs[i.1]? = some z → p z.1 = true) ∧ W.cell? ⟨w.heap.size + 1, 0, none⟩ = some (.int .i64 ((i.1 : Nat) : Int))) ∧ Below w.heap.size w W)
    (OwnFrom.and (Own.from (fun s A B row hs hg hr => hs) _) (ownFrom_below (Nat.le_refl _) (Nat.le_refl _)))
    (fun c => OwnFrom.and (Own.from (fun s A B row hs hg hr => by
      obtain ⟨h1, q, i, h2, h3, h4, h5⟩ := hs
      exact ⟨h1, q, i, h2, h3, h4, cell_kept h5 hg hr⟩) _) (ownFrom_below (Nat.le_refl _) (by omega)))
    ⟨fun i hi => (by cases hi), Below.refl _ _⟩ (fun i => { tmps := #[.pointer (some ⟨x, 0, none⟩), .func (.func k) #[] #[], undef, .pointer (some ⟨w.heap.size, 0, none⟩), .pointer (some ⟨w.heap.size + 1, 0, none⟩), .int .i64 ((i.1 : Nat) : Int), .pointer (some ⟨r, i.1 * 5, none⟩), .pointer (some ⟨x, 0, none⟩), .func (.func 82) #[] #[.pointer (some ⟨w.heap.size + 1 + 1, 0, none⟩)], .int .i64 ((i.1 : Nat) : Int), .pointer (some ⟨r, i.1 * 5, none⟩), undef, undef, undef, undef], defers := [] }) ?assign ?body ?done ?stop
  case assign =>
    intro l i W K hK
    gi_wp2
    exact hK
  case body =>
    rintro l pre i W ⟨hall, hB⟩ _
    have hz := List.getElem?_eq_getElem i.2
    generalize zs[i.1] = z at hz
    have hBw : Below w.heap.size w W := hB0.trans (hB.mono hB0.size)
    have hW := h.below hBw
    have HC := Lib.hid (hp W r (i.1 * 5) z (hW.frc hz))
    have f3 := (b3.below hB b3.lt).cell 0
    have HB4 := Lib.hid (b4.below hB b4.lt)
    simp only [List.getElem?_toArray, List.getElem?_cons_zero] at f3
    clear hW
    have HR := Lib.hid (fun (w' : World) (hb' : Below W.heap.size W w') (hpz : p z.1 = true) => show KeepsOthers W (w'.setCell ⟨w.heap.size + 1, 0, none⟩ (.int .i64 ((i.1 : Nat) : Int))) ∧ ((∃ (q : List (Below_ zs.length)) (i' : Below_ zs.length), pre ++ [i] = q ++ [i'] ∧ (∀ i ∈ q, ∀ z, zs[i.1]? = some z → p z.1 = false) ∧ (∀ z, zs[i'.1]? = some z → p z.1 = true) ∧ (w'.setCell ⟨w.heap.size + 1, 0, none⟩ (.int .i64 ((i.1 : Nat) : Int))).cell? ⟨w.heap.size + 1, 0, none⟩ = some (.int .i64 ((i'.1 : Nat) : Int))) ∧ Below w.heap.size w (w'.setCell ⟨w.heap.size + 1, 0, none⟩ (.int .i64 ((i.1 : Nat) : Int)))) from
      ⟨(others_below hb').trans (KeepsOthers.setCell _ _ _), ⟨pre, i, rfl, hall, fun z' hz' => by rw [hz] at hz'; injection hz' with e; subst e; exact hpz, World.cell?_setCell_same' _ _ _ (by rw [(HB4.out.below hb' HB4.out.lt).cell 0]; rfl)⟩, (hBw.trans (hb'.mono hBw.size)).setCell (p := ⟨w.heap.size + 1, 0, none⟩) (by simp) _⟩)
    have HG := Lib.hid (fun (w' : World) (hb' : Below W.heap.size W w') (hpz : p z.1 = false) => show KeepsOthers W w' ∧ KpP (fun j => j = w.heap.size + 1 + 1 ∨ j = x) W w' ∧ (∀ i' ∈ pre ++ [i], ∀ z, zs[i'.1]? = some z → p z.1 = false) ∧ Below w0.heap.size w0 w' from
      ⟨others_below hb', KpP.below hb' (fun j hj => by rcases hj with rfl | rfl; exact (b5.below hB b5.lt).lt; exact (h.below hBw).blk.lt), fun i' hi' z' hz' => by
        rcases List.mem_append.1 hi' with hi' | hi'
        · exact hall i' hi' z' hz'
        · rw [List.mem_singleton.1 hi', hz] at hz'
          injection hz' with e
          subst e
          exact hpz, hB.trans (hb'.mono hB.size)⟩)
    clear hall hB hBw hz h0 h hp hB0 hB1 b3 b4 b5
    cases hpz : p z.1
    · rw [hpz] at HC
      gi_wp2_with (refine ⟨trivial, ?_⟩; gi_at_fn k; refine (CallsIn.inRound l (callsIn_wide.2 HC.out)).mono ?_; rintro e w' ⟨rfl, hb'⟩)
      exact HG.out _ hb' hpz
    · rw [hpz] at HC
      gi_wp2_with (refine ⟨trivial, ?_⟩; gi_at_fn k; refine (CallsIn.inRound l (callsIn_wide.2 HC.out)).mono ?_; rintro e w' ⟨rfl, hb'⟩; have hb4 := HB4.out.below hb' HB4.out.lt; have g0 := hb4.cell 0; have g1 := hb4.frozen 0; simp only [List.getElem?_toArray, List.getElem?_cons_zero] at g0; clear hb4)
      obtain ⟨q1, q2, q3⟩ := HR.out _ hb' hpz
      exact ⟨q1, ⟨rfl, q2⟩, q3⟩
  case done =>
    rintro D ys W hD hys ⟨hall, hB⟩ hK
    have hb4 := b4.below hB b4.lt
    have g0 := hb4.cell 0
    have g1 := hb4.frozen 0
    simp only [List.getElem?_toArray, List.getElem?_cons_zero] at g0
    have ht : topN p (zs.map (·.1)) = 0 := topN_of (Nat.zero_le _) (fun j f _ hf => by
      obtain ⟨z, hz, rfl⟩ := fr_get hf
      have hj := (List.getElem?_eq_some_iff.1 hz).1
      have hm := mem_down hj
      rw [← hys] at hm
      obtain ⟨i, hi, rfl⟩ := List.mem_map.1 hm
      exact hall i hi z hz) (fun h => absurd h (Nat.lt_irrefl 0))
    have hBw := hB0.trans (hB.mono hB0.size)
    gi_wp2
    have hK' := (KeepsOthers.setCell W ⟨w.heap.size + 1, 0, none⟩ (.int .i64 (-1))).same D _ hK rfl
    refine ⟨by simp, .inl ⟨_, _, rfl, run_takeDeferred hK', ?_⟩⟩
    have hc5 := cell_kept (World.cell?_setCell_same' W ⟨w.heap.size + 1, 0, none⟩ (.int .i64 (-1)) (by rw [g0]; rfl)) (grownBy_putObj' _ D (.deferred none)) (fun r e => by cases e; exact ⟨_, hK', rfl⟩)
    refine ⟨.int .i64 (-1), ?_, by rw [ht]; rfl, (hBw.setCell (p := ⟨w.heap.size + 1, 0, none⟩) (by simp) _).trans (belowK_b (w := w) (Nat.le_refl _) _ D _ _ (by omega) hK' rfl rfl)⟩
    simp [results, Tryz.f49, go_sem, hc5]
  case stop =>
    rintro D c pre W hD hpre ⟨⟨rfl, q, i, rfl, h3, h4, h5⟩, hB⟩ hK
    have ht : topN p (zs.map (·.1)) = i.1 + 1 := by
      obtain ⟨rest, hr⟩ := hpre
      rw [List.map_append, List.append_assoc] at hr
      obtain ⟨h6, h7, h8⟩ := down_parts hr.symm
      have h8' : ∀ j, i.1 < j → j < zs.length → j ∈ q.map (·.1) := h8
      refine topN_of (by rw [List.length_map]; exact i.2) (fun j f hj hf => ?_) (fun _ => ?_)
      · obtain ⟨z, hz, rfl⟩ := fr_get hf
        have hjl := (List.getElem?_eq_some_iff.1 hz).1
        obtain ⟨i', hi', rfl⟩ := List.mem_map.1 (h8' j (by omega) hjl)
        exact h3 i' hi' z hz
      · have hz := List.getElem?_eq_getElem i.2
        exact ⟨_, get_fr hz, h4 _ hz⟩
    have e1 : ((topN p (zs.map (·.1)) : Nat) - 1 : Int) = ((i.1 : Nat) : Int) := by rw [ht]; omega
    gi_wp2
    refine ⟨by simp, .inl ⟨_, _, rfl, run_takeDeferred hK, ?_⟩⟩
    have hc5 := cell_kept h5 (grownBy_putObj' _ D (.deferred none)) (fun r e => by cases e; exact ⟨_, hK, rfl⟩)
    refine ⟨.int .i64 ((i.1 : Nat) : Int), ?_, by rw [e1], hB.trans (belowK_b (w := w) (Nat.le_refl _) W D _ _ (by omega) hK rfl rfl)⟩
    simp [results, Tryz.f49, go_sem, hc5]
end
end Go.Proofs.YtpgkhhchpojlaaaGreatDoor
namespace Go.Proofs.YtpgkhhchpojlaaaGreatDoor
open Go.RowKit Go.Maps Go.WideMaps

attribute [local go_sem] Oper.semAt_some
section
variable {U K : Nat → Prop} {w w' : World} {x r cap : Nat} {zs : List Fv} {fs : List Fr}
theorem Blk.others {A B : World} {row : Option Nat} {g : Nat} {t : TypeId} {cs : Array Value} (h : Blk A g t cs) (hg : A.grownBy B row) (hr : ∀ r, row = some r → ∃ o : Obj, A.heap[r]? = some o ∧ o.isCells = false) : Blk B g t cs := h.grown hg (fun e => by
  obtain ⟨o, ho, hc⟩ := hr g e.symm
  rw [show A.heap[g]? = _ from h] at ho
  injection ho with ho
  subst ho
  cases hc)
/-- Where the lowest frame is that is as asked, of those that were gone over. -/
def lowV (p : Fr → Bool) (fs : List Fr) (s : Int) : List Nat → Int
  | [] => s
  | i :: is => lowV p fs (if p (frI fs i) then (i : Nat) else s) is
theorem lowV_snoc (p : Fr → Bool) (fs : List Fr) : ∀ (is : List Nat) (s : Int) (i : Nat), lowV p fs s (is ++ [i]) = if p (frI fs i) then ((i : Nat) : Int) else lowV p fs s is
  | [], _s, _i => rfl
  | _j :: is, _s, i => lowV_snoc p fs is _ i
theorem lowV_down (p : Fr → Bool) (fs : List Fr) : ∀ (n : Nat) (s : Int), n ≤ fs.length → lowV p fs s (down n) = if (fs.take n).findIdx p < n then (((fs.take n).findIdx p : Nat) : Int) else s
  | 0, s, _ => rfl
  | n + 1, s, hn => by
    have hx := List.getElem?_eq_getElem (show n < fs.length by omega)
    have e1 : fs.take (n + 1) = fs.take n ++ [frI fs n] := by rw [List.take_add_one, hx, frI_at hx]; rfl
    have hl : (fs.take n).length = n := by rw [List.length_take]; omega
    show lowV p fs (if p (frI fs n) then (n : Nat) else s) (down n) = _
    rw [lowV_down p fs n _ (by omega), e1, List.findIdx_append, hl]
    by_cases h1 : (fs.take n).findIdx p < n
    · rw [if_pos h1, if_pos h1, if_pos (by omega)]
    · rw [if_neg h1, if_neg h1]
      by_cases h2 : p (frI fs n) = true
      · simp [List.findIdx_cons, h2]
      · rw [if_neg h2, if_neg (by simp [List.findIdx_cons, h2]; omega)]
theorem lowV_all (p : Fr → Bool) (fs : List Fr) (h : 0 < topN p fs) : lowV p fs (-1) (down fs.length) = ((fs.findIdx p : Nat) : Int) := by
  obtain ⟨f, h1, h2⟩ := topN_at h
  rw [lowV_down p fs _ _ (Nat.le_refl _), List.take_length, if_pos (List.findIdx_lt_length_of_exists ⟨f, List.mem_of_getElem? h1, h2⟩)]
set_option maxRecDepth 100000 in
set_option maxHeartbeats 1000000 in
theorem cLowest (h : CK U K w x zs r cap) (h0 : 0 < topN (Fr.is 2) (zs.map (·.1))) :
    Calls Tryz.prog 56 #[.pointer (some ⟨x, 0, none⟩)] w fun e w' => e = .returned (.int .i64 ((lowN (zs.map (·.1)) : Nat) : Int)) ∧ Below w.heap.size w w' := by
  have hL : lowV (Fr.is 2) (zs.map (·.1)) (-1) (down (zs.map (·.1)).length) = ((lowN (zs.map (·.1)) : Nat) : Int) := lowV_all (Fr.is 2) _ h0
  rw [List.length_map] at hL
  refine (callsIn_wide (n := 3)).1 ?_
  refine callsIn_of_wp_marks Tryz.func56 rfl trivial ?_ rfl
  simp only [Tryz.ntmps56, List.size_toArray, List.length_cons, List.length_nil, Nat.reduceAdd, Nat.reduceSub, Array.replicate_succ, Array.replicate_zero, List.push_toArray, List.append_toArray, List.nil_append, List.cons_append]
  gi_wp2_with (refine ⟨trivial, ?_⟩; gi_at_call 71; refine (callsIn_wide.2 (cFromTop x _)).mono ?_; rintro e w' ⟨rfl, rfl⟩)
  obtain ⟨w0, hw0⟩ : ∃ w0, w0 = (w.alloc (.cells #[.int .i64 (-1)] 3)).alloc (.cells #[.pointer (some ⟨x, 0, none⟩)] 25) := ⟨_, rfl⟩
  have hB1 : Below w.heap.size w (w.alloc (.cells #[.int .i64 (-1)] 3)) := (Below.refl _ _).alloc (Nat.le_refl _) _
  have hB0 : Below w.heap.size w w0 := by rw [hw0]; exact hB1.alloc hB1.size _
  have hs0 : w0.heap.size = w.heap.size + 2 := by rw [hw0]; simp
  have b4 : Blk w0 w.heap.size 3 #[.int .i64 (-1)] := by rw [hw0]; exact (Blk.new _ _ _).alloc _
  have b5 : Blk w0 (w.heap.size + 1) 25 #[.pointer (some ⟨x, 0, none⟩)] := by rw [hw0]; have := Blk.new (w.alloc (.cells #[.int .i64 (-1)] 3)) 25 #[.pointer (some ⟨x, 0, none⟩)]; rwa [World.size_alloc] at this
  have hw := h.below hB0
  rw [← hw0]
  refine wpIn_rangeFunc_ownF rfl (by omega) (gf := 82) (lb := #[.pointer (some ⟨w.heap.size + 1, 0, none⟩)]) rfl trivial (enters_of Tryz.func82 (by kernel_rfl) rfl)
    (cStops (w.heap.size + 1) x r zs.length cap w0 hw.len hw.cap_.1 (b5.cell 0) hw.c0) (fun h k => KpP.t h k) (KpP.b (fun i hi => by rcases hi with rfl | rfl; exact b5.lt; exact hw.blk.lt)) (Below.refl _ _) (fun _ => rfl)
    (fun pre W => (Blk W w.heap.size 3 #[.int .i64 (lowV (Fr.is 2) (zs.map (·.1)) (-1) (pre.map (·.1)))] ∧ Blk W (w.heap.size + 1) 25 #[.pointer (some ⟨x, 0, none⟩)]) ∧ Below w.heap.size w W)
    (fun _ _ _ => False)
    (OwnFrom.and (Own.from (fun s A B row hs hg hr => ⟨hs.1.others hg hr, hs.2.others hg hr⟩) _) (ownFrom_below (Nat.le_refl _) (by omega)))
    (fun _ _ _ _ _ hs _ _ => hs)
    ⟨⟨b4, b5⟩, hB0⟩ (fun i => { tmps := #[.pointer (some ⟨x, 0, none⟩), undef, .int .i64 0, .pointer (some ⟨w.heap.size, 0, none⟩), .int .i64 ((i.1 : Nat) : Int), .pointer (some ⟨r, i.1 * 5, none⟩), .pointer (some ⟨x, 0, none⟩), .func (.func 82) #[] #[.pointer (some ⟨w.heap.size + 1, 0, none⟩)], .int .i64 ((i.1 : Nat) : Int), .pointer (some ⟨r, i.1 * 5, none⟩), undef, undef, undef, undef], defers := [] }) ?assign ?body ?done ?stop
  case assign =>
    intro l i W K hK
    gi_wp2
    exact hK
  case body =>
    rintro l pre i W ⟨⟨hc4, hc5⟩, hB⟩ _
    have hz := List.getElem?_eq_getElem i.2
    generalize zs[i.1] = z at hz
    have hW := h.below hB
    have HC := Lib.hid (aMacro W r (i.1 * 5) z (hW.frc hz))
    have hfi : frI (zs.map (·.1)) i.1 = z.1 := frI_at (get_fr hz)
    have HB4 := Lib.hid hc4
    have HG := Lib.hid (fun (w' : World) (hb' : Below W.heap.size W w') (hpz : Fr.is 2 z.1 = false) => show KeepsOthers W w' ∧ KpP (fun j => j = w.heap.size + 1 ∨ j = x) W w' ∧ (Blk w' w.heap.size 3 #[.int .i64 (lowV (Fr.is 2) (zs.map (·.1)) (-1) ((pre ++ [i]).map (·.1)))] ∧ Blk w' (w.heap.size + 1) 25 #[.pointer (some ⟨x, 0, none⟩)]) ∧ Below w.heap.size w w' from
      ⟨others_below hb', KpP.below hb' (fun j hj => by rcases hj with rfl | rfl; exact hc5.lt; exact hW.blk.lt), ⟨by
        rw [List.map_append, List.map_cons, List.map_nil, lowV_snoc, hfi, hpz]
        exact hc4.below hb' hc4.lt, hc5.below hb' hc5.lt⟩, hB.trans (hb'.mono hB.size)⟩)
    have HR := Lib.hid (fun (w' : World) (hb' : Below W.heap.size W w') (hpz : Fr.is 2 z.1 = true) => show KeepsOthers W (w'.setCell ⟨w.heap.size, 0, none⟩ (.int .i64 ((i.1 : Nat) : Int))) ∧ KpP (fun j => j = w.heap.size + 1 ∨ j = x) W (w'.setCell ⟨w.heap.size, 0, none⟩ (.int .i64 ((i.1 : Nat) : Int))) ∧ (Blk (w'.setCell ⟨w.heap.size, 0, none⟩ (.int .i64 ((i.1 : Nat) : Int))) w.heap.size 3 #[.int .i64 (lowV (Fr.is 2) (zs.map (·.1)) (-1) ((pre ++ [i]).map (·.1)))] ∧ Blk (w'.setCell ⟨w.heap.size, 0, none⟩ (.int .i64 ((i.1 : Nat) : Int))) (w.heap.size + 1) 25 #[.pointer (some ⟨x, 0, none⟩)]) ∧ Below w.heap.size w (w'.setCell ⟨w.heap.size, 0, none⟩ (.int .i64 ((i.1 : Nat) : Int))) from
      ⟨(others_below hb').trans (KeepsOthers.setCell _ _ _), KpP.t (KpP.below hb' (fun j hj => by rcases hj with rfl | rfl; exact hc5.lt; exact hW.blk.lt)) (fun j hj => Below.heap_setCell _ _ _ _ (by
          have hxl := h.blk.lt
          show j ≠ w.heap.size
          rcases hj with rfl | rfl <;> omega)), ⟨by
        rw [List.map_append, List.map_cons, List.map_nil, lowV_snoc, hfi, hpz]
        exact blk_set (hc4.below hb' hc4.lt) _, (hc5.below hb' hc5.lt).far (by show w.heap.size + 1 ≠ w.heap.size; omega) _⟩, (hB.trans (hb'.mono hB.size)).setCell (p := ⟨w.heap.size, 0, none⟩) (Nat.le_refl _) _⟩)
    clear hB hW hz hw h hB0 hB1 b4 b5 hc4 hc5 hL h0 hfi
    cases hpz : Fr.is 2 z.1
    · rw [hpz] at HC
      gi_wp2_with (refine ⟨trivial, ?_⟩; gi_at_call 55; refine (CallsIn.inRound l (callsIn_wide.2 HC.out)).mono ?_; rintro e w' ⟨rfl, hb'⟩)
      exact HG.out _ hb' hpz
    · rw [hpz] at HC
      gi_wp2_with (refine ⟨trivial, ?_⟩; gi_at_call 55; refine (CallsIn.inRound l (callsIn_wide.2 HC.out)).mono ?_; rintro e w' ⟨rfl, hb'⟩; have hb4 := HB4.out.below hb' HB4.out.lt; have g0 := hb4.cell 0; have g1 := hb4.frozen 0; simp only [List.getElem?_toArray, List.getElem?_cons_zero] at g0; clear hb4)
      exact HR.out _ hb' hpz
  case done =>
    rintro D ys W hD hys ⟨⟨hb4, _⟩, hB⟩ hK
    rw [hys, hL] at hb4
    have g0 := hb4.cell 0
    simp only [List.getElem?_toArray, List.getElem?_cons_zero] at g0
    gi_wp2
    refine ⟨by simp, .inl ⟨_, _, rfl, run_takeDeferred hK, ?_⟩⟩
    exact ⟨_, results_tmp rfl _ _ _, rfl, hB.trans (belowK_b (w := w) (Nat.le_refl _) W D _ _ (by omega) hK rfl rfl)⟩
  case stop =>
    rintro D c pre W _ _ h _
    exact h.elim
end
end Go.Proofs.YtpgkhhchpojlaaaGreatDoor
