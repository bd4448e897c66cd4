/- Walks of package expand's edge: what is thrown is caught; texts that are none. -/
import Derived.Test.YtbkcnopkibdlbaaDoorAj
import Derived.Recover
import Derived.Laws.EntriesVeiled
namespace Go.Proofs.YtbkcnopkibdlbaaDoor
open Go.RowKit Go.Lib

/-- The closure that catches, where nothing was thrown. -/
theorem dRet (b1 : Nat) (w : World) :
    CallsD Tryd.prog 21 #[.pointer (some ⟨b1, 0, none⟩)] .returning w fun e u' w' => e = .returned (.tuple #[]) ∧ u' = .returning ∧ w' = w := by
  refine callsD_of_wpS Tryd.func21 rfl fun c₀ cs hu => ?_
  have ht : (#[.pointer (some ⟨b1, 0, none⟩)] ++ Array.replicate (Tryd.f21.ntmps - (#[Value.pointer (some ⟨b1, 0, none⟩)] : Array Value).size) undef : Array Value) = #[.pointer (some ⟨b1, 0, none⟩), undef, undef, undef, undef, undef] := by kernel_rfl
  rw [ht]
  clear ht
  apply wpS_seq
  apply wpS_region
  simp [wpOpsS, go_sem, recoverD, hu, Exit.thenS]
  refine wpS_of_wp ?_
  go_wp2
  cases c₀
  simp_all [bodyPostS, results, Tryd.results21]
/-- The closure that catches, where a limit was met. -/
theorem dThrown (b1 : Nat) (y : Int) (w : World) (h1 : w.cell? ⟨b1, 0, none⟩ = some (.int .i64 y)) (f1 : w.frozen? ⟨b1, 0, none⟩ = false) :
    CallsD Tryd.prog 21 #[.pointer (some ⟨b1, 0, none⟩)] (.panicking [{ v := .iface 52 (.agg #[]), recovered := false }]) w fun e u' w' =>
      e = .returned (.tuple #[]) ∧ u' = .panicking [{ v := .iface 52 (.agg #[]), recovered := true }] ∧ w' = w.setCell ⟨b1, 0, none⟩ (.int .i64 2) := by
  have hta : ∀ w : World, (Instr.typeAssert (.iface 52 (.agg #[])) 20 52 true).run Tryd.prog w = .ok (.tuple #[.agg #[], .bool true]) w := fun _ => by kernel_rfl
  refine callsD_of_wpS Tryd.func21 rfl fun c₀ cs hu => ?_
  have ht : (#[.pointer (some ⟨b1, 0, none⟩)] ++ Array.replicate (Tryd.f21.ntmps - (#[Value.pointer (some ⟨b1, 0, none⟩)] : Array Value).size) undef : Array Value) = #[.pointer (some ⟨b1, 0, none⟩), undef, undef, undef, undef, undef] := by kernel_rfl
  rw [ht]
  clear ht
  apply wpS_seq
  apply wpS_region
  simp [wpOpsS, go_sem, recoverD, hu, Exit.thenS]
  refine wpS_of_wp ?_
  go_wp2
  cases c₀
  simp_all [bodyPostS, results, Tryd.results21]
/-- Whether a text has no line feed. -/
def noLf (s : ByteArray) : Bool := !decide (0 ≤ Lib.indexByte s.data.toList 10)
def textB (s : ByteArray) : Bool := decide (s.size ≤ 2000) && noLf s
/-- validText. -/
theorem cText (s : ByteArray) (hs : s.size ≤ maxLen) (w : World) :
    Calls Tryd.prog 19 #[.string s] w fun e w' => e = .returned (.bool (textB s)) ∧ w = w' := by
  unfold maxLen at hs
  have HC := Lib.hid (fun w => Tryd.strings_Contains_one s 10 w)
  by_cases h1 : (s.size : Int) ≤ 2000
  · have hn : textB s = noLf s := by unfold textB; rw [decide_eq_true (by omega : s.size ≤ 2000)]; rfl
    rw [hn]
    unfold noLf
    generalize decide (0 ≤ Lib.indexByte s.data.toList 10) = b at HC ⊢
    clear hn
    go_enter Tryd.func19, Tryd.ntmps19
    go_wp2_with (go_at_call 26; refine (HC.out _).mono ?_; rintro e w' ⟨rfl, rfl⟩)
    go_ret
    exact ⟨rfl, rfl⟩
  · have hn : textB s = false := by unfold textB; rw [decide_eq_false (by omega : ¬ s.size ≤ 2000)]; rfl
    rw [hn]; clear hn
    go_enter Tryd.func19, Tryd.ntmps19
    go_wp2_with fail
    go_ret
    exact ⟨rfl, rfl⟩
theorem door_end {P : Program} {fn : Func} {R : Ending → World → Prop} {tmps : Array Value} {w : World} {v : Value} (hv : (results fn tmps).run P w = .ok v w) (hR : R (.returned v) w) : bodyPostD P fn R Exit.ret { tmps := tmps, defers := [] } w := ⟨v, hv, hR⟩
theorem eqNil (w : World) : (binOp BinOp.eql 50 .nilFunc .nilFunc).run Tryd.prog w = .ok (.bool true) w := by kernel_rfl
theorem eqFn (f : Fn) (fs cs : Array Value) (w : World) : (binOp BinOp.eql 50 (.func f fs cs) .nilFunc).run Tryd.prog w = .ok (.bool false) w := by kernel_rfl
/-- Expand, where nobody is asked. -/
theorem cExpandNil (s : ByteArray) (cp : Bool) (w : World) :
    Calls Tryd.prog 11 #[.string s, .bool cp, .nilFunc] w fun e w' => e = .returned (.tuple #[.string ⟨#[]⟩, .int .i64 1]) ∧ Below w.heap.size w w' := by
  have hq := eqNil
  go_enter_defers Tryd.func11, Tryd.ntmps11
  go_wp2_with fail
  refine door_end (v := .tuple #[.string ⟨#[]⟩, .int .i64 1]) (by simp [results, Tryd.results11, go_sem]) ⟨rfl, by go_grown⟩
/-- What Expand answers. -/
def exV : Option ByteArray → Value
  | some t => .tuple #[.string t, .int .i64 0]
  | none => .tuple #[.string ⟨#[]⟩, .int .i64 2]
set_option maxRecDepth 100000 in
set_option maxHeartbeats 2000000 in
/-- Expand, whoever is asked; V: the blocks that he may change. -/
theorem cExpand {A : Esc → ByteArray} {J : Nat → (Nat → Prop) → Nat → World → Prop} {cp : Bool} {f : Fn} {fs : Array Value} (O : ∀ b, Orc b cp A (J b)) (V : Nat → Prop) (s : ByteArray) (hs : textB s = true) (w : World)
    (hJ : ∀ w1, Below w.heap.size w w1 → Blk w1 (w.heap.size + 1) 54 #[.bool cp, .func f fs #[], .int .i64 0] → ∃ U0, J (w.heap.size + 1) U0 0 w1 ∧ ∀ i, U0 i → V i ∧ i < w.heap.size ∨ i = w.heap.size + 1) :
    Calls Tryd.prog 11 #[.string s, .bool cp, .func f fs #[]] w fun e w' => ∃ U' o m, Exp cp A 0 ⟨#[]⟩ s o m ∧ e = .returned (exV o) ∧ J (w.heap.size + 1) U' m w' ∧ Turn V w w' ∧ ∀ i, U' i → V i ∨ w.heap.size ≤ i := by
  have hq := eqFn f fs #[]
  have hz : s.size ≤ 2000 := by unfold textB at hs; simp at hs; exact hs.1
  have HC := Lib.hid (fun w => cText s (by unfold maxLen; omega) w)
  rw [hs] at HC
  have hmf : ∀ (fn : Fn) (first cap : Array Value) (w : World), (Instr.makeFunc fn first cap).run Tryd.prog w = .ok (.func fn first cap) w := fun _ _ _ _ => rfl
  have hb1 := Blk.new w 28 #[.int .i64 0]
  have hb2 := Blk.new (w.alloc (.cells #[.int .i64 0] 28)) 54 #[.bool cp, .func f fs #[], .int .i64 0]
  have hb1' := hb1.alloc (.cells #[.bool cp, .func f fs #[], .int .i64 0] 54)
  have hbe := ((Below.refl w.heap.size w).alloc (Nat.le_refl _) (.cells #[.int .i64 0] 28)).alloc (by simp) (.cells #[.bool cp, .func f fs #[], .int .i64 0] 54)
  obtain ⟨W, hW⟩ : ∃ W, W = (w.alloc (.cells #[.int .i64 0] 28)).alloc (.cells #[.bool cp, .func f fs #[], .int .i64 0] 54) := ⟨_, rfl⟩
  have hWs : W.heap.size = w.heap.size + 1 + 1 := by rw [hW]; simp
  rw [show (w.alloc (.cells #[.int .i64 0] 28)).heap.size = w.heap.size + 1 by simp] at hb2
  rw [← hW] at hb1' hb2 hbe
  obtain ⟨U0, hj, hu⟩ := hJ W hbe hb2
  have HE := cEx (O (w.heap.size + 1)) (muE 0 s.size + 1) U0 0 s W (Nat.lt_succ_self _) (by omega) (by omega) hj
  have HB1 := Lib.hid hb1'
  have HBE := Lib.hid hbe
  have HU := Lib.hid hu
  have HO := Lib.hid (O (w.heap.size + 1))
  have HX : Hid (∀ (U' : Nat → Prop) (m : Nat) (w2 : World), J (w.heap.size + 1) U' m w2 → Turn U0 W w2 → (∀ i, U' i → U0 i ∨ W.heap.size ≤ i) → Blk w2 w.heap.size 28 #[.int .i64 0] ∧ ∀ n : Int, J (w.heap.size + 1) U' m (w2.setCell ⟨w.heap.size, 0, none⟩ (.int .i64 n)) ∧ Turn V w (w2.setCell ⟨w.heap.size, 0, none⟩ (.int .i64 n)) ∧ ∀ i, U' i → V i ∨ w.heap.size ≤ i) := Lib.hid (fun U' m w2 hj hT hn => by
    have h0 : ¬ U0 w.heap.size := fun h => by rcases HU.out _ h with e | e <;> omega
    have h1 : ¬ U' w.heap.size := fun h => by rcases hn _ h with e | e; exact h0 e; omega
    refine ⟨hT.blk HB1.out h0, fun n => ⟨HO.out.keep (V := (· = w.heap.size)) hj ((Turn.refl _ _).set w.heap.size 0 _ rfl) (fun i hi e => h1 (by rw [← show i = w.heap.size from e]; exact hi)), ?_, fun i hi => ?_⟩⟩
    rotate_left
    · rcases hn i hi with e | e
      · rcases HU.out i e with e | e
        · exact .inl e.1
        · exact .inr (by omega)
      · exact .inr (by omega)
    have hT1 : Turn V w w2 := (Turn.of_below (S := V) HBE.out).trans hT (fun i hi h => by rcases HU.out i h with e | e; exact e.1; omega)
    exact hT1.trans (S2 := (· = w.heap.size)) ((Turn.refl _ _).set w.heap.size 0 _ rfl) (fun i hi e => by have : i = w.heap.size := e; omega))
  rw [hW] at HE
  have HE := Lib.hid HE
  clear hJ hb1 hb2 hb1' hbe hj hu hs O
  go_enter_defers Tryd.func11, Tryd.ntmps11
  go_wp2_with (go_at_call 19; refine (HC.out _).mono ?_; rintro e w1 ⟨rfl, rfl⟩)
  refine HE.out.mono ?_
  rintro e w2 ⟨U', o, m, hx, he, hj, hT, hn, _, _⟩
  rw [← hW] at hT hn
  obtain ⟨hb, hk⟩ := HX.out U' m w2 hj hT hn
  have q0 : w2.cell? ⟨w.heap.size, 0, none⟩ = some (.int .i64 0) := hb.cell 0
  have qf := fun i => hb.frozen i
  cases o with
  | some t =>
    have he2 : e = .returned (.string t) := he
    rw [he2]
    have HK := Lib.hid (hk 0)
    clear hj hT hn hb hk he he2
    go_wp2_with fail
    refine leaves_cons (f := 21) (args := #[.pointer (some ⟨w.heap.size, 0, none⟩)]) (by simp) (by simp [go_sem]) ?_
    refine (dRet _ _).mono ?_
    rintro e u' w'' ⟨rfl, rfl, rfl⟩
    refine ⟨.tuple #[.string t, .int .i64 0], ?_, U', some t, m, hx, rfl, HK.out.1, HK.out.2.1, HK.out.2.2⟩
    simp [results, Tryd.results11, go_sem, q0]
  | none =>
    have he2 : e = thrownL := he
    rw [he2]
    have HK := Lib.hid (hk 2)
    clear hj hT hn hb hk he he2
    go_wp2_with fail
    refine leaves_cons (f := 21) (args := #[.pointer (some ⟨w.heap.size, 0, none⟩)]) (by simp) (by simp [go_sem]) ?_
    refine (dThrown _ 0 _ q0 (qf 0)).mono ?_
    rintro e u' w'' ⟨rfl, rfl, rfl⟩
    refine ⟨.tuple #[.string ⟨#[]⟩, .int .i64 2], ?_, U', none, m, hx, rfl, HK.out.1, HK.out.2.1, HK.out.2.2⟩
    simp [results, Tryd.results11, go_sem, q0]
end Go.Proofs.YtbkcnopkibdlbaaDoor
