/- Walks: a deed, done to a stack that is none. -/
import Derived.Test.YtpgkhhchpojlaaaDoorMb
namespace Go.Proofs.YtpgkhhchpojlaaaDoor
open Go.RowKit Go.Maps Go.WideMaps

/-- No line, and the error of arguments. -/
def NOut (e : Ending) : Prop := ∃ A c, e = .returned (.tuple #[.agg #[.string ⟨#[]⟩, .bool false, .int .i64 0, .int .i64 0, .slice A 0 c], .int .i64 1]) ∧ ∀ (K : Nat → Prop) (w : World), BxsAt K w (.slice A 0 c) []
/-- What is asked of the code's calls at a stack that is none, or was not made. -/
structure NMeth (N : World → Option Addr → Prop) : Prop where
  on : ∀ {w w' : World} {p : Option Addr}, N w p → Below w.heap.size w w' → N w' p
  copy : ∀ {w : World} {p : Option Addr}, N w p → Calls Tryd.prog 23 #[.pointer p] w fun e w' => e = .returned (.pointer none) ∧ Below w.heap.size w w'
  file : ∀ {w : World} {p : Option Addr} (n t : ByteArray), n.size ≤ maxLen → t.size ≤ 1000000 → N w p →
    Calls Tryd.prog 11 #[.pointer p, .string n, .string t] w fun e w' => e = .returned (.int .i64 1) ∧ Below w.heap.size w w'
  macro_ : ∀ {w : World} {p : Option Addr} (n : ByteArray) (K0 : Nat → Prop) (v v2 : Value) (ls : List Ln) (ags : List ByteArray), n.size ≤ maxLen → ls.length ≤ 10000000000000 → ags.length * 16 ≤ 140737488355328 → LnsAt K0 w v ls → SsAt K0 w v2 ags → (∀ k, K0 k → k < w.heap.size) → N w p →
    Calls Tryd.prog 17 #[.pointer p, .string n, v, v2] w fun e w' => e = .returned (.int .i64 1) ∧ Below w.heap.size w w'
  wait : ∀ {w : World} {p : Option Addr} (K0 : Nat → Prop) (v : Value) (ls : List Ln), ls.length ≤ 10000000000000 → LnsAt K0 w v ls → (∀ k, K0 k → k < w.heap.size) → N w p →
    Calls Tryd.prog 18 #[.pointer p, v] w fun e w' => e = .returned (.int .i64 1) ∧ Below w.heap.size w w'
  next : ∀ {w : World} {p : Option Addr}, N w p → Calls Tryd.prog 14 #[.pointer p] w fun e w' => NOut e ∧ Below w.heap.size w w'
  peek : ∀ {w : World} {p : Option Addr}, N w p → Calls Tryd.prog 29 #[.pointer p] w fun e w' => NOut e ∧ Below w.heap.size w w'
  return_ : ∀ {w : World} {p : Option Addr} (all : Bool), N w p → Calls Tryd.prog 30 #[.pointer p, .bool all] w fun e w' => e = .returned (.int .i64 1) ∧ Below w.heap.size w w'
  instead : ∀ {w : World} {p : Option Addr} (n t : ByteArray), n.size ≤ maxLen → t.size ≤ 1000000 → N w p →
    Calls Tryd.prog 31 #[.pointer p, .string n, .string t] w fun e w' => e = .returned (.int .i64 1) ∧ Below w.heap.size w w'
  shift : ∀ {w : World} {p : Option Addr} (n : Int), -9223372036854775808 ≤ n ∧ n ≤ 9223372036854775807 → N w p → Calls Tryd.prog 32 #[.pointer p, .int .i64 n] w fun e w' => e = .returned (.int .i64 1) ∧ Below w.heap.size w w'
  args : ∀ {w : World} {p : Option Addr}, N w p → Calls Tryd.prog 22 #[.pointer p] w fun e w' => (∃ A c, e = .returned (.slice A 0 c)) ∧ Below w.heap.size w w'
  name : ∀ {w : World} {p : Option Addr}, N w p → Calls Tryd.prog 21 #[.pointer p] w fun e w' => e = .returned (.string ⟨#[]⟩) ∧ Below w.heap.size w w'
  line : ∀ {w : World} {p : Option Addr}, N w p → Calls Tryd.prog 20 #[.pointer p] w fun e w' => e = .returned (.int .i64 0) ∧ Below w.heap.size w w'
  depth : ∀ {w : World} {p : Option Addr}, N w p → Calls Tryd.prog 13 #[.pointer p] w fun e w' => e = .returned (.int .i64 0) ∧ Below w.heap.size w w'
section
variable {N : World → Option Addr → Prop} {w w' : World} {p : Option Addr}
theorem Two.endN {w0 w5 w6 : World} (h2 : Two w w0) (hk : Below w0.heap.size w0 w5) (hT : Turn (· = w.heap.size + 1) w5 w6) : Below w.heap.size w w6 := by
  have e := h2.below.size
  have e5 := hk.size
  exact hT.below (h2.below.trans (hk.mono e)) (by omega) (fun i hi => by omega)
theorem Two.blkN {w0 w5 : World} (h2 : Two w w0) (hk : Below w0.heap.size w0 w5) : Blk w5 (w.heap.size + 1) 36 #[.string ⟨#[]⟩, .bool false, .int .i64 0, .int .i64 0, .slice none 0 0] :=
  (Turn.of_below (S := fun _ => False) hk).blk h2.res id
theorem no_boxes (K : Nat → Prop) (w : World) : BxsAt K w (.slice none 0 0) [] := RowAt.nil
set_option maxRecDepth 100000 in
set_option maxHeartbeats 1000000 in
theorem zDo0 (M : NMeth N) (d : Dd) (A : Option Addr) (n c : Nat) (A2 : Option Addr) (n2 c2 : Nat) (hz1 : d.name.size ≤ maxLen) (hz2 : d.text.size ≤ 1000000) (h : N w p) (hw : d.what = 0) :
    Calls Tryd.prog 12 #[.pointer p, ddV d A n c A2 n2 c2] w fun e w' => NOut e ∧ Below w.heap.size w w' := by
  obtain ⟨w0, hw0⟩ : ∃ w0, w0 = (w.alloc (.cells #[.int .i64 d.what, .string d.name, .string d.text, .slice A n c, .slice A2 n2 c2, .int .i64 d.n] 33)).alloc (.cells #[.string ⟨#[]⟩, .bool false, .int .i64 0, .int .i64 0, .slice none 0 0] 36) := ⟨_, rfl⟩
  have hB1 : Below w.heap.size w (w.alloc (.cells #[.int .i64 d.what, .string d.name, .string d.text, .slice A n c, .slice A2 n2 c2, .int .i64 d.n] 33)) := (Below.refl _ _).alloc (Nat.le_refl _) _
  have h2 : Two w w0 := by
    rw [hw0]
    exact ⟨hB1.alloc hB1.size _, by simp, blk_at2 (by simp)⟩
  have hdb : Blk w0 w.heap.size 33 #[.int .i64 d.what, .string d.name, .string d.text, .slice A n c, .slice A2 n2 c2, .int .i64 d.n] := by rw [hw0]; exact (Blk.new _ _ _).alloc _
  have c0 := hdb.cell 0
  have c1 := hdb.cell 1
  have c2' := hdb.cell 2
  have c3 := hdb.cell 3
  have c4 := hdb.cell 4
  have c5 := hdb.cell 5
  simp only [List.getElem?_toArray, List.getElem?_cons_zero, List.getElem?_cons_succ] at c0 c1 c2' c3 c4 c5
  have h0 := M.on h h2.below
  have HEnd := Lib.hid (fun (w5 w6 : World) (hk : Below w0.heap.size w0 w5) (hT : Turn (· = w.heap.size + 1) w5 w6) => h2.endN hk hT)
  have HBlk := Lib.hid (fun (w5 : World) (hk : Below w0.heap.size w0 w5) => h2.blkN hk)
  have h2s := h2.size
  have HC := Lib.hid (M.file d.name d.text hz1 hz2 h0)
  rw [hw] at c0 hw0
  clear hdb h0 h2 hB1 h
  unfold ddV
  rw [hw]
  subst hw0
  go_enter Tryd.func12, Tryd.ntmps12
  go_wp2_with (go_at_call 11; refine HC.out.mono ?_; rintro e w5 ⟨rfl, hk5⟩; have hr5 := HBlk.out _ hk5; have hf0 := hr5.frozen 0; have hf1 := hr5.frozen 1; have hf2 := hr5.frozen 2; have hf3 := hr5.frozen 3; have hf4 := hr5.frozen 4; have d0 := hr5.cell 0; have d1 := hr5.cell 1; have d2 := hr5.cell 2; have d3 := hr5.cell 3; have d4 := hr5.cell 4; simp only [List.getElem?_toArray, List.getElem?_cons_zero, List.getElem?_cons_succ] at d0 d1 d2 d3 d4; obtain ⟨hT6, hR6⟩ := res_set hr5 (.string ⟨#[]⟩) (.bool false) (.int .i64 0) (.int .i64 0) (.slice none 0 0); have HK := Lib.hid (HEnd.out _ _ hk5 hT6); have HR6 := Lib.hid hR6; clear hr5 hT6 hR6 hk5)
  have p0 := HR6.out.cell 0
  have p1 := HR6.out.cell 1
  have p2 := HR6.out.cell 2
  have p3 := HR6.out.cell 3
  have p4 := HR6.out.cell 4
  simp only [List.getElem?_toArray, List.getElem?_cons_zero, List.getElem?_cons_succ] at p0 p1 p2 p3 p4
  exact bodyPost_ret (v := .tuple #[.agg #[.string ⟨#[]⟩, .bool false, .int .i64 0, .int .i64 0, .slice none 0 0], .int .i64 1]) (by simp [results, Tryd.results12, go_sem, p0, p1, p2, p3, p4]) rfl ⟨⟨none, 0, rfl, no_boxes⟩, HK.out⟩
set_option maxRecDepth 100000 in
set_option maxHeartbeats 1000000 in
theorem zDo1 (M : NMeth N) (d : Dd) (A : Option Addr) (n c : Nat) (A2 : Option Addr) (n2 c2 : Nat) (K0 : Nat → Prop) (hv : LnsAt K0 w (.slice A n c) d.lines) (hv2 : SsAt K0 w (.slice A2 n2 c2) d.args) (hK0 : ∀ k, K0 k → k < w.heap.size) (hz1 : d.name.size ≤ maxLen) (hz3 : d.lines.length ≤ 10000000000000) (hz4 : d.args.length * 16 ≤ 140737488355328) (h : N w p) (hw : d.what = 1) :
    Calls Tryd.prog 12 #[.pointer p, ddV d A n c A2 n2 c2] w fun e w' => NOut e ∧ Below w.heap.size w w' := by
  obtain ⟨w0, hw0⟩ : ∃ w0, w0 = (w.alloc (.cells #[.int .i64 d.what, .string d.name, .string d.text, .slice A n c, .slice A2 n2 c2, .int .i64 d.n] 33)).alloc (.cells #[.string ⟨#[]⟩, .bool false, .int .i64 0, .int .i64 0, .slice none 0 0] 36) := ⟨_, rfl⟩
  have hB1 : Below w.heap.size w (w.alloc (.cells #[.int .i64 d.what, .string d.name, .string d.text, .slice A n c, .slice A2 n2 c2, .int .i64 d.n] 33)) := (Below.refl _ _).alloc (Nat.le_refl _) _
  have h2 : Two w w0 := by
    rw [hw0]
    exact ⟨hB1.alloc hB1.size _, by simp, blk_at2 (by simp)⟩
  have hdb : Blk w0 w.heap.size 33 #[.int .i64 d.what, .string d.name, .string d.text, .slice A n c, .slice A2 n2 c2, .int .i64 d.n] := by rw [hw0]; exact (Blk.new _ _ _).alloc _
  have c0 := hdb.cell 0
  have c1 := hdb.cell 1
  have c2' := hdb.cell 2
  have c3 := hdb.cell 3
  have c4 := hdb.cell 4
  have c5 := hdb.cell 5
  simp only [List.getElem?_toArray, List.getElem?_cons_zero, List.getElem?_cons_succ] at c0 c1 c2' c3 c4 c5
  have h0 := M.on h h2.below
  have HEnd := Lib.hid (fun (w5 w6 : World) (hk : Below w0.heap.size w0 w5) (hT : Turn (· = w.heap.size + 1) w5 w6) => h2.endN hk hT)
  have HBlk := Lib.hid (fun (w5 : World) (hk : Below w0.heap.size w0 w5) => h2.blkN hk)
  have h2s := h2.size
  have HC := Lib.hid (M.macro_ d.name K0 (.slice A n c) (.slice A2 n2 c2) d.lines d.args hz1 hz3 hz4 (hv.stay (Kept.of_below h2.below hK0) (fun _ h => h)) (hv2.stay (Kept.of_below h2.below hK0) (fun _ h => h)) (fun k hk => Nat.lt_of_lt_of_le (hK0 k hk) h2.below.size) h0)
  rw [hw] at c0 hw0
  clear hdb h0 h2 hB1 h
  clear hv hK0 hv2
  unfold ddV
  rw [hw]
  subst hw0
  go_enter Tryd.func12, Tryd.ntmps12
  go_wp2_with (go_at_call 17; refine HC.out.mono ?_; rintro e w5 ⟨rfl, hk5⟩; have hr5 := HBlk.out _ hk5; have hf0 := hr5.frozen 0; have hf1 := hr5.frozen 1; have hf2 := hr5.frozen 2; have hf3 := hr5.frozen 3; have hf4 := hr5.frozen 4; have d0 := hr5.cell 0; have d1 := hr5.cell 1; have d2 := hr5.cell 2; have d3 := hr5.cell 3; have d4 := hr5.cell 4; simp only [List.getElem?_toArray, List.getElem?_cons_zero, List.getElem?_cons_succ] at d0 d1 d2 d3 d4; obtain ⟨hT6, hR6⟩ := res_set hr5 (.string ⟨#[]⟩) (.bool false) (.int .i64 0) (.int .i64 0) (.slice none 0 0); have HK := Lib.hid (HEnd.out _ _ hk5 hT6); have HR6 := Lib.hid hR6; clear hr5 hT6 hR6 hk5)
  have p0 := HR6.out.cell 0
  have p1 := HR6.out.cell 1
  have p2 := HR6.out.cell 2
  have p3 := HR6.out.cell 3
  have p4 := HR6.out.cell 4
  simp only [List.getElem?_toArray, List.getElem?_cons_zero, List.getElem?_cons_succ] at p0 p1 p2 p3 p4
  exact bodyPost_ret (v := .tuple #[.agg #[.string ⟨#[]⟩, .bool false, .int .i64 0, .int .i64 0, .slice none 0 0], .int .i64 1]) (by simp [results, Tryd.results12, go_sem, p0, p1, p2, p3, p4]) rfl ⟨⟨none, 0, rfl, no_boxes⟩, HK.out⟩
set_option maxRecDepth 100000 in
set_option maxHeartbeats 1000000 in
theorem zDo2 (M : NMeth N) (d : Dd) (A : Option Addr) (n c : Nat) (A2 : Option Addr) (n2 c2 : Nat) (K0 : Nat → Prop) (hv : LnsAt K0 w (.slice A n c) d.lines) (hK0 : ∀ k, K0 k → k < w.heap.size) (hz3 : d.lines.length ≤ 10000000000000) (h : N w p) (hw : d.what = 2) :
    Calls Tryd.prog 12 #[.pointer p, ddV d A n c A2 n2 c2] w fun e w' => NOut e ∧ Below w.heap.size w w' := by
  obtain ⟨w0, hw0⟩ : ∃ w0, w0 = (w.alloc (.cells #[.int .i64 d.what, .string d.name, .string d.text, .slice A n c, .slice A2 n2 c2, .int .i64 d.n] 33)).alloc (.cells #[.string ⟨#[]⟩, .bool false, .int .i64 0, .int .i64 0, .slice none 0 0] 36) := ⟨_, rfl⟩
  have hB1 : Below w.heap.size w (w.alloc (.cells #[.int .i64 d.what, .string d.name, .string d.text, .slice A n c, .slice A2 n2 c2, .int .i64 d.n] 33)) := (Below.refl _ _).alloc (Nat.le_refl _) _
  have h2 : Two w w0 := by
    rw [hw0]
    exact ⟨hB1.alloc hB1.size _, by simp, blk_at2 (by simp)⟩
  have hdb : Blk w0 w.heap.size 33 #[.int .i64 d.what, .string d.name, .string d.text, .slice A n c, .slice A2 n2 c2, .int .i64 d.n] := by rw [hw0]; exact (Blk.new _ _ _).alloc _
  have c0 := hdb.cell 0
  have c1 := hdb.cell 1
  have c2' := hdb.cell 2
  have c3 := hdb.cell 3
  have c4 := hdb.cell 4
  have c5 := hdb.cell 5
  simp only [List.getElem?_toArray, List.getElem?_cons_zero, List.getElem?_cons_succ] at c0 c1 c2' c3 c4 c5
  have h0 := M.on h h2.below
  have HEnd := Lib.hid (fun (w5 w6 : World) (hk : Below w0.heap.size w0 w5) (hT : Turn (· = w.heap.size + 1) w5 w6) => h2.endN hk hT)
  have HBlk := Lib.hid (fun (w5 : World) (hk : Below w0.heap.size w0 w5) => h2.blkN hk)
  have h2s := h2.size
  have HC := Lib.hid (M.wait K0 (.slice A n c) d.lines hz3 (hv.stay (Kept.of_below h2.below hK0) (fun _ h => h)) (fun k hk => Nat.lt_of_lt_of_le (hK0 k hk) h2.below.size) h0)
  rw [hw] at c0 hw0
  clear hdb h0 h2 hB1 h
  clear hv hK0
  unfold ddV
  rw [hw]
  subst hw0
  go_enter Tryd.func12, Tryd.ntmps12
  go_wp2_with (go_at_call 18; refine HC.out.mono ?_; rintro e w5 ⟨rfl, hk5⟩; have hr5 := HBlk.out _ hk5; have hf0 := hr5.frozen 0; have hf1 := hr5.frozen 1; have hf2 := hr5.frozen 2; have hf3 := hr5.frozen 3; have hf4 := hr5.frozen 4; have d0 := hr5.cell 0; have d1 := hr5.cell 1; have d2 := hr5.cell 2; have d3 := hr5.cell 3; have d4 := hr5.cell 4; simp only [List.getElem?_toArray, List.getElem?_cons_zero, List.getElem?_cons_succ] at d0 d1 d2 d3 d4; obtain ⟨hT6, hR6⟩ := res_set hr5 (.string ⟨#[]⟩) (.bool false) (.int .i64 0) (.int .i64 0) (.slice none 0 0); have HK := Lib.hid (HEnd.out _ _ hk5 hT6); have HR6 := Lib.hid hR6; clear hr5 hT6 hR6 hk5)
  have p0 := HR6.out.cell 0
  have p1 := HR6.out.cell 1
  have p2 := HR6.out.cell 2
  have p3 := HR6.out.cell 3
  have p4 := HR6.out.cell 4
  simp only [List.getElem?_toArray, List.getElem?_cons_zero, List.getElem?_cons_succ] at p0 p1 p2 p3 p4
  exact bodyPost_ret (v := .tuple #[.agg #[.string ⟨#[]⟩, .bool false, .int .i64 0, .int .i64 0, .slice none 0 0], .int .i64 1]) (by simp [results, Tryd.results12, go_sem, p0, p1, p2, p3, p4]) rfl ⟨⟨none, 0, rfl, no_boxes⟩, HK.out⟩
set_option maxRecDepth 100000 in
set_option maxHeartbeats 1000000 in
theorem zDo3 (M : NMeth N) (d : Dd) (A : Option Addr) (n c : Nat) (A2 : Option Addr) (n2 c2 : Nat) (h : N w p) (hw : d.what = 3) :
    Calls Tryd.prog 12 #[.pointer p, ddV d A n c A2 n2 c2] w fun e w' => NOut e ∧ Below w.heap.size w w' := by
  obtain ⟨w0, hw0⟩ : ∃ w0, w0 = (w.alloc (.cells #[.int .i64 d.what, .string d.name, .string d.text, .slice A n c, .slice A2 n2 c2, .int .i64 d.n] 33)).alloc (.cells #[.string ⟨#[]⟩, .bool false, .int .i64 0, .int .i64 0, .slice none 0 0] 36) := ⟨_, rfl⟩
  have hB1 : Below w.heap.size w (w.alloc (.cells #[.int .i64 d.what, .string d.name, .string d.text, .slice A n c, .slice A2 n2 c2, .int .i64 d.n] 33)) := (Below.refl _ _).alloc (Nat.le_refl _) _
  have h2 : Two w w0 := by
    rw [hw0]
    exact ⟨hB1.alloc hB1.size _, by simp, blk_at2 (by simp)⟩
  have hdb : Blk w0 w.heap.size 33 #[.int .i64 d.what, .string d.name, .string d.text, .slice A n c, .slice A2 n2 c2, .int .i64 d.n] := by rw [hw0]; exact (Blk.new _ _ _).alloc _
  have c0 := hdb.cell 0
  have c1 := hdb.cell 1
  have c2' := hdb.cell 2
  have c3 := hdb.cell 3
  have c4 := hdb.cell 4
  have c5 := hdb.cell 5
  simp only [List.getElem?_toArray, List.getElem?_cons_zero, List.getElem?_cons_succ] at c0 c1 c2' c3 c4 c5
  have h0 := M.on h h2.below
  have HEnd := Lib.hid (fun (w5 w6 : World) (hk : Below w0.heap.size w0 w5) (hT : Turn (· = w.heap.size + 1) w5 w6) => h2.endN hk hT)
  have HBlk := Lib.hid (fun (w5 : World) (hk : Below w0.heap.size w0 w5) => h2.blkN hk)
  have h2s := h2.size
  have HC := Lib.hid (M.next h0)
  rw [hw] at c0 hw0
  clear hdb h0 h2 hB1 h
  unfold ddV
  rw [hw]
  subst hw0
  go_enter Tryd.func12, Tryd.ntmps12
  go_wp2_with (go_at_call 14; refine HC.out.mono ?_; rintro e w5 ⟨⟨A5, c5', rfl, hbx5⟩, hk5⟩; have hr5 := HBlk.out _ hk5; have hf0 := hr5.frozen 0; have hf1 := hr5.frozen 1; have hf2 := hr5.frozen 2; have hf3 := hr5.frozen 3; have hf4 := hr5.frozen 4; have d0 := hr5.cell 0; have d1 := hr5.cell 1; have d2 := hr5.cell 2; have d3 := hr5.cell 3; have d4 := hr5.cell 4; simp only [List.getElem?_toArray, List.getElem?_cons_zero, List.getElem?_cons_succ] at d0 d1 d2 d3 d4; obtain ⟨hT6, hR6⟩ := res_set hr5 (.string ⟨#[]⟩) (.bool false) (.int .i64 0) (.int .i64 0) (.slice A5 0 c5'); have HK := Lib.hid (HEnd.out _ _ hk5 hT6); have HR6 := Lib.hid hR6; have HBx := Lib.hid hbx5; clear hr5 hT6 hR6 hbx5 hk5)
  have p0 := HR6.out.cell 0
  have p1 := HR6.out.cell 1
  have p2 := HR6.out.cell 2
  have p3 := HR6.out.cell 3
  have p4 := HR6.out.cell 4
  simp only [List.getElem?_toArray, List.getElem?_cons_zero, List.getElem?_cons_succ] at p0 p1 p2 p3 p4
  exact bodyPost_ret (v := .tuple #[.agg #[.string ⟨#[]⟩, .bool false, .int .i64 0, .int .i64 0, .slice A5 0 c5'], .int .i64 1]) (by simp [results, Tryd.results12, go_sem, p0, p1, p2, p3, p4]) rfl ⟨⟨A5, c5', rfl, HBx.out⟩, HK.out⟩
set_option maxRecDepth 100000 in
set_option maxHeartbeats 1000000 in
theorem zDo4 (M : NMeth N) (d : Dd) (A : Option Addr) (n c : Nat) (A2 : Option Addr) (n2 c2 : Nat) (h : N w p) (hw : d.what = 4) :
    Calls Tryd.prog 12 #[.pointer p, ddV d A n c A2 n2 c2] w fun e w' => NOut e ∧ Below w.heap.size w w' := by
  obtain ⟨w0, hw0⟩ : ∃ w0, w0 = (w.alloc (.cells #[.int .i64 d.what, .string d.name, .string d.text, .slice A n c, .slice A2 n2 c2, .int .i64 d.n] 33)).alloc (.cells #[.string ⟨#[]⟩, .bool false, .int .i64 0, .int .i64 0, .slice none 0 0] 36) := ⟨_, rfl⟩
  have hB1 : Below w.heap.size w (w.alloc (.cells #[.int .i64 d.what, .string d.name, .string d.text, .slice A n c, .slice A2 n2 c2, .int .i64 d.n] 33)) := (Below.refl _ _).alloc (Nat.le_refl _) _
  have h2 : Two w w0 := by
    rw [hw0]
    exact ⟨hB1.alloc hB1.size _, by simp, blk_at2 (by simp)⟩
  have hdb : Blk w0 w.heap.size 33 #[.int .i64 d.what, .string d.name, .string d.text, .slice A n c, .slice A2 n2 c2, .int .i64 d.n] := by rw [hw0]; exact (Blk.new _ _ _).alloc _
  have c0 := hdb.cell 0
  have c1 := hdb.cell 1
  have c2' := hdb.cell 2
  have c3 := hdb.cell 3
  have c4 := hdb.cell 4
  have c5 := hdb.cell 5
  simp only [List.getElem?_toArray, List.getElem?_cons_zero, List.getElem?_cons_succ] at c0 c1 c2' c3 c4 c5
  have h0 := M.on h h2.below
  have HEnd := Lib.hid (fun (w5 w6 : World) (hk : Below w0.heap.size w0 w5) (hT : Turn (· = w.heap.size + 1) w5 w6) => h2.endN hk hT)
  have HBlk := Lib.hid (fun (w5 : World) (hk : Below w0.heap.size w0 w5) => h2.blkN hk)
  have h2s := h2.size
  have HC := Lib.hid (M.peek h0)
  rw [hw] at c0 hw0
  clear hdb h0 h2 hB1 h
  unfold ddV
  rw [hw]
  subst hw0
  go_enter Tryd.func12, Tryd.ntmps12
  go_wp2_with (go_at_call 29; refine HC.out.mono ?_; rintro e w5 ⟨⟨A5, c5', rfl, hbx5⟩, hk5⟩; have hr5 := HBlk.out _ hk5; have hf0 := hr5.frozen 0; have hf1 := hr5.frozen 1; have hf2 := hr5.frozen 2; have hf3 := hr5.frozen 3; have hf4 := hr5.frozen 4; have d0 := hr5.cell 0; have d1 := hr5.cell 1; have d2 := hr5.cell 2; have d3 := hr5.cell 3; have d4 := hr5.cell 4; simp only [List.getElem?_toArray, List.getElem?_cons_zero, List.getElem?_cons_succ] at d0 d1 d2 d3 d4; obtain ⟨hT6, hR6⟩ := res_set hr5 (.string ⟨#[]⟩) (.bool false) (.int .i64 0) (.int .i64 0) (.slice A5 0 c5'); have HK := Lib.hid (HEnd.out _ _ hk5 hT6); have HR6 := Lib.hid hR6; have HBx := Lib.hid hbx5; clear hr5 hT6 hR6 hbx5 hk5)
  have p0 := HR6.out.cell 0
  have p1 := HR6.out.cell 1
  have p2 := HR6.out.cell 2
  have p3 := HR6.out.cell 3
  have p4 := HR6.out.cell 4
  simp only [List.getElem?_toArray, List.getElem?_cons_zero, List.getElem?_cons_succ] at p0 p1 p2 p3 p4
  exact bodyPost_ret (v := .tuple #[.agg #[.string ⟨#[]⟩, .bool false, .int .i64 0, .int .i64 0, .slice A5 0 c5'], .int .i64 1]) (by simp [results, Tryd.results12, go_sem, p0, p1, p2, p3, p4]) rfl ⟨⟨A5, c5', rfl, HBx.out⟩, HK.out⟩
set_option maxRecDepth 100000 in
set_option maxHeartbeats 1000000 in
theorem zDo5 (M : NMeth N) (d : Dd) (A : Option Addr) (n c : Nat) (A2 : Option Addr) (n2 c2 : Nat) (h : N w p) (hw : d.what = 5) :
    Calls Tryd.prog 12 #[.pointer p, ddV d A n c A2 n2 c2] w fun e w' => NOut e ∧ Below w.heap.size w w' := by
  obtain ⟨w0, hw0⟩ : ∃ w0, w0 = (w.alloc (.cells #[.int .i64 d.what, .string d.name, .string d.text, .slice A n c, .slice A2 n2 c2, .int .i64 d.n] 33)).alloc (.cells #[.string ⟨#[]⟩, .bool false, .int .i64 0, .int .i64 0, .slice none 0 0] 36) := ⟨_, rfl⟩
  have hB1 : Below w.heap.size w (w.alloc (.cells #[.int .i64 d.what, .string d.name, .string d.text, .slice A n c, .slice A2 n2 c2, .int .i64 d.n] 33)) := (Below.refl _ _).alloc (Nat.le_refl _) _
  have h2 : Two w w0 := by
    rw [hw0]
    exact ⟨hB1.alloc hB1.size _, by simp, blk_at2 (by simp)⟩
  have hdb : Blk w0 w.heap.size 33 #[.int .i64 d.what, .string d.name, .string d.text, .slice A n c, .slice A2 n2 c2, .int .i64 d.n] := by rw [hw0]; exact (Blk.new _ _ _).alloc _
  have c0 := hdb.cell 0
  have c1 := hdb.cell 1
  have c2' := hdb.cell 2
  have c3 := hdb.cell 3
  have c4 := hdb.cell 4
  have c5 := hdb.cell 5
  simp only [List.getElem?_toArray, List.getElem?_cons_zero, List.getElem?_cons_succ] at c0 c1 c2' c3 c4 c5
  have h0 := M.on h h2.below
  have HEnd := Lib.hid (fun (w5 w6 : World) (hk : Below w0.heap.size w0 w5) (hT : Turn (· = w.heap.size + 1) w5 w6) => h2.endN hk hT)
  have HBlk := Lib.hid (fun (w5 : World) (hk : Below w0.heap.size w0 w5) => h2.blkN hk)
  have h2s := h2.size
  have HC := Lib.hid (M.return_ (oddB d.n) h0)
  rw [hw] at c0 hw0
  clear hdb h0 h2 hB1 h
  have hod : (d.n.tmod 2 != 0) = oddB d.n := rfl
  unfold ddV
  rw [hw]
  subst hw0
  go_enter Tryd.func12, Tryd.ntmps12
  go_wp2_with (go_at_call 30; refine HC.out.mono ?_; rintro e w5 ⟨rfl, hk5⟩; have hr5 := HBlk.out _ hk5; have hf0 := hr5.frozen 0; have hf1 := hr5.frozen 1; have hf2 := hr5.frozen 2; have hf3 := hr5.frozen 3; have hf4 := hr5.frozen 4; have d0 := hr5.cell 0; have d1 := hr5.cell 1; have d2 := hr5.cell 2; have d3 := hr5.cell 3; have d4 := hr5.cell 4; simp only [List.getElem?_toArray, List.getElem?_cons_zero, List.getElem?_cons_succ] at d0 d1 d2 d3 d4; obtain ⟨hT6, hR6⟩ := res_set hr5 (.string ⟨#[]⟩) (.bool false) (.int .i64 0) (.int .i64 0) (.slice none 0 0); have HK := Lib.hid (HEnd.out _ _ hk5 hT6); have HR6 := Lib.hid hR6; clear hr5 hT6 hR6 hk5)
  have p0 := HR6.out.cell 0
  have p1 := HR6.out.cell 1
  have p2 := HR6.out.cell 2
  have p3 := HR6.out.cell 3
  have p4 := HR6.out.cell 4
  simp only [List.getElem?_toArray, List.getElem?_cons_zero, List.getElem?_cons_succ] at p0 p1 p2 p3 p4
  exact bodyPost_ret (v := .tuple #[.agg #[.string ⟨#[]⟩, .bool false, .int .i64 0, .int .i64 0, .slice none 0 0], .int .i64 1]) (by simp [results, Tryd.results12, go_sem, p0, p1, p2, p3, p4]) rfl ⟨⟨none, 0, rfl, no_boxes⟩, HK.out⟩
set_option maxRecDepth 100000 in
set_option maxHeartbeats 1000000 in
theorem zDo6 (M : NMeth N) (d : Dd) (A : Option Addr) (n c : Nat) (A2 : Option Addr) (n2 c2 : Nat) (hz1 : d.name.size ≤ maxLen) (hz2 : d.text.size ≤ 1000000) (h : N w p) (hw : d.what = 6) :
    Calls Tryd.prog 12 #[.pointer p, ddV d A n c A2 n2 c2] w fun e w' => NOut e ∧ Below w.heap.size w w' := by
  obtain ⟨w0, hw0⟩ : ∃ w0, w0 = (w.alloc (.cells #[.int .i64 d.what, .string d.name, .string d.text, .slice A n c, .slice A2 n2 c2, .int .i64 d.n] 33)).alloc (.cells #[.string ⟨#[]⟩, .bool false, .int .i64 0, .int .i64 0, .slice none 0 0] 36) := ⟨_, rfl⟩
  have hB1 : Below w.heap.size w (w.alloc (.cells #[.int .i64 d.what, .string d.name, .string d.text, .slice A n c, .slice A2 n2 c2, .int .i64 d.n] 33)) := (Below.refl _ _).alloc (Nat.le_refl _) _
  have h2 : Two w w0 := by
    rw [hw0]
    exact ⟨hB1.alloc hB1.size _, by simp, blk_at2 (by simp)⟩
  have hdb : Blk w0 w.heap.size 33 #[.int .i64 d.what, .string d.name, .string d.text, .slice A n c, .slice A2 n2 c2, .int .i64 d.n] := by rw [hw0]; exact (Blk.new _ _ _).alloc _
  have c0 := hdb.cell 0
  have c1 := hdb.cell 1
  have c2' := hdb.cell 2
  have c3 := hdb.cell 3
  have c4 := hdb.cell 4
  have c5 := hdb.cell 5
  simp only [List.getElem?_toArray, List.getElem?_cons_zero, List.getElem?_cons_succ] at c0 c1 c2' c3 c4 c5
  have h0 := M.on h h2.below
  have HEnd := Lib.hid (fun (w5 w6 : World) (hk : Below w0.heap.size w0 w5) (hT : Turn (· = w.heap.size + 1) w5 w6) => h2.endN hk hT)
  have HBlk := Lib.hid (fun (w5 : World) (hk : Below w0.heap.size w0 w5) => h2.blkN hk)
  have h2s := h2.size
  have HC := Lib.hid (M.instead d.name d.text hz1 hz2 h0)
  rw [hw] at c0 hw0
  clear hdb h0 h2 hB1 h
  unfold ddV
  rw [hw]
  subst hw0
  go_enter Tryd.func12, Tryd.ntmps12
  go_wp2_with (go_at_call 31; refine HC.out.mono ?_; rintro e w5 ⟨rfl, hk5⟩; have hr5 := HBlk.out _ hk5; have hf0 := hr5.frozen 0; have hf1 := hr5.frozen 1; have hf2 := hr5.frozen 2; have hf3 := hr5.frozen 3; have hf4 := hr5.frozen 4; have d0 := hr5.cell 0; have d1 := hr5.cell 1; have d2 := hr5.cell 2; have d3 := hr5.cell 3; have d4 := hr5.cell 4; simp only [List.getElem?_toArray, List.getElem?_cons_zero, List.getElem?_cons_succ] at d0 d1 d2 d3 d4; obtain ⟨hT6, hR6⟩ := res_set hr5 (.string ⟨#[]⟩) (.bool false) (.int .i64 0) (.int .i64 0) (.slice none 0 0); have HK := Lib.hid (HEnd.out _ _ hk5 hT6); have HR6 := Lib.hid hR6; clear hr5 hT6 hR6 hk5)
  have p0 := HR6.out.cell 0
  have p1 := HR6.out.cell 1
  have p2 := HR6.out.cell 2
  have p3 := HR6.out.cell 3
  have p4 := HR6.out.cell 4
  simp only [List.getElem?_toArray, List.getElem?_cons_zero, List.getElem?_cons_succ] at p0 p1 p2 p3 p4
  exact bodyPost_ret (v := .tuple #[.agg #[.string ⟨#[]⟩, .bool false, .int .i64 0, .int .i64 0, .slice none 0 0], .int .i64 1]) (by simp [results, Tryd.results12, go_sem, p0, p1, p2, p3, p4]) rfl ⟨⟨none, 0, rfl, no_boxes⟩, HK.out⟩
set_option maxRecDepth 100000 in
set_option maxHeartbeats 1000000 in
theorem zDo7 (M : NMeth N) (d : Dd) (A : Option Addr) (n c : Nat) (A2 : Option Addr) (n2 c2 : Nat) (hwn : -9223372036854775808 ≤ d.n ∧ d.n ≤ 9223372036854775807) (h : N w p) (hw : d.what = 7) :
    Calls Tryd.prog 12 #[.pointer p, ddV d A n c A2 n2 c2] w fun e w' => NOut e ∧ Below w.heap.size w w' := by
  obtain ⟨w0, hw0⟩ : ∃ w0, w0 = (w.alloc (.cells #[.int .i64 d.what, .string d.name, .string d.text, .slice A n c, .slice A2 n2 c2, .int .i64 d.n] 33)).alloc (.cells #[.string ⟨#[]⟩, .bool false, .int .i64 0, .int .i64 0, .slice none 0 0] 36) := ⟨_, rfl⟩
  have hB1 : Below w.heap.size w (w.alloc (.cells #[.int .i64 d.what, .string d.name, .string d.text, .slice A n c, .slice A2 n2 c2, .int .i64 d.n] 33)) := (Below.refl _ _).alloc (Nat.le_refl _) _
  have h2 : Two w w0 := by
    rw [hw0]
    exact ⟨hB1.alloc hB1.size _, by simp, blk_at2 (by simp)⟩
  have hdb : Blk w0 w.heap.size 33 #[.int .i64 d.what, .string d.name, .string d.text, .slice A n c, .slice A2 n2 c2, .int .i64 d.n] := by rw [hw0]; exact (Blk.new _ _ _).alloc _
  have c0 := hdb.cell 0
  have c1 := hdb.cell 1
  have c2' := hdb.cell 2
  have c3 := hdb.cell 3
  have c4 := hdb.cell 4
  have c5 := hdb.cell 5
  simp only [List.getElem?_toArray, List.getElem?_cons_zero, List.getElem?_cons_succ] at c0 c1 c2' c3 c4 c5
  have h0 := M.on h h2.below
  have HEnd := Lib.hid (fun (w5 w6 : World) (hk : Below w0.heap.size w0 w5) (hT : Turn (· = w.heap.size + 1) w5 w6) => h2.endN hk hT)
  have HBlk := Lib.hid (fun (w5 : World) (hk : Below w0.heap.size w0 w5) => h2.blkN hk)
  have h2s := h2.size
  have HC := Lib.hid (M.shift d.n hwn h0)
  rw [hw] at c0 hw0
  clear hdb h0 h2 hB1 h
  unfold ddV
  rw [hw]
  subst hw0
  go_enter Tryd.func12, Tryd.ntmps12
  go_wp2_with (go_at_call 32; refine HC.out.mono ?_; rintro e w5 ⟨rfl, hk5⟩; have hr5 := HBlk.out _ hk5; have hf0 := hr5.frozen 0; have hf1 := hr5.frozen 1; have hf2 := hr5.frozen 2; have hf3 := hr5.frozen 3; have hf4 := hr5.frozen 4; have d0 := hr5.cell 0; have d1 := hr5.cell 1; have d2 := hr5.cell 2; have d3 := hr5.cell 3; have d4 := hr5.cell 4; simp only [List.getElem?_toArray, List.getElem?_cons_zero, List.getElem?_cons_succ] at d0 d1 d2 d3 d4; obtain ⟨hT6, hR6⟩ := res_set hr5 (.string ⟨#[]⟩) (.bool false) (.int .i64 0) (.int .i64 0) (.slice none 0 0); have HK := Lib.hid (HEnd.out _ _ hk5 hT6); have HR6 := Lib.hid hR6; clear hr5 hT6 hR6 hk5)
  have p0 := HR6.out.cell 0
  have p1 := HR6.out.cell 1
  have p2 := HR6.out.cell 2
  have p3 := HR6.out.cell 3
  have p4 := HR6.out.cell 4
  simp only [List.getElem?_toArray, List.getElem?_cons_zero, List.getElem?_cons_succ] at p0 p1 p2 p3 p4
  exact bodyPost_ret (v := .tuple #[.agg #[.string ⟨#[]⟩, .bool false, .int .i64 0, .int .i64 0, .slice none 0 0], .int .i64 1]) (by simp [results, Tryd.results12, go_sem, p0, p1, p2, p3, p4]) rfl ⟨⟨none, 0, rfl, no_boxes⟩, HK.out⟩
/-- do. -/
theorem zDo (M : NMeth N) (d : Dd) (hw : 0 ≤ d.what ∧ d.what < 8) (K0 : Nat → Prop) (v v2 : Value) (hv : LnsAt K0 w v d.lines) (hv2 : SsAt K0 w v2 d.args) (hK0 : ∀ k, K0 k → k < w.heap.size) (hz1 : d.name.size ≤ maxLen) (hz2 : d.text.size ≤ 1000000) (hz3 : d.lines.length ≤ 10000000000000) (hz4 : d.args.length * 16 ≤ 140737488355328) (hwn : -9223372036854775808 ≤ d.n ∧ d.n ≤ 9223372036854775807) (h : N w p) :
    Calls Tryd.prog 12 #[.pointer p, .agg #[.int .i64 d.what, .string d.name, .string d.text, v, v2, .int .i64 d.n]] w fun e w' => NOut e ∧ Below w.heap.size w w' := by
  obtain ⟨A, c, rfl, _⟩ := id hv
  obtain ⟨A2, c2, rfl, _⟩ := id hv2
  have hc : d.what = 0 ∨ d.what = 1 ∨ d.what = 2 ∨ d.what = 3 ∨ d.what = 4 ∨ d.what = 5 ∨ d.what = 6 ∨ d.what = 7 := by omega
  rcases hc with e | e | e | e | e | e | e | e
  · exact zDo0 M d A d.lines.length c A2 d.args.length c2 hz1 hz2 h e
  · exact zDo1 M d A d.lines.length c A2 d.args.length c2 K0 hv hv2 hK0 hz1 hz3 hz4 h e
  · exact zDo2 M d A d.lines.length c A2 d.args.length c2 K0 hv hK0 hz3 h e
  · exact zDo3 M d A d.lines.length c A2 d.args.length c2 h e
  · exact zDo4 M d A d.lines.length c A2 d.args.length c2 h e
  · exact zDo5 M d A d.lines.length c A2 d.args.length c2 h e
  · exact zDo6 M d A d.lines.length c A2 d.args.length c2 hz1 hz2 h e
  · exact zDo7 M d A d.lines.length c A2 d.args.length c2 hwn h e
end
end Go.Proofs.YtpgkhhchpojlaaaDoor
