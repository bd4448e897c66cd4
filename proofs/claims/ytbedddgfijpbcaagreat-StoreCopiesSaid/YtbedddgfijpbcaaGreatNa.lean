/- Walks: a store that is nil, or was not made. -/
import Derived.Test.YtbedddgfijpbcaaGreatBb
namespace Go.Proofs.YtbedddgfijpbcaaGreat
open Go.RowKit

/-- A store that is nil, or was not made. -/
def NoSt (w : World) (rv : Value) : Prop := rv = .pointer none ∨ ∃ z, rv = .pointer (some ⟨z, 0, none⟩) ∧ w.cell? ⟨z, 0, none⟩ = some (.map none)
section
variable {w w' : World} {rv : Value}
theorem NoSt.below (h : NoSt w rv) (hb : Below w.heap.size w w') : NoSt w' rv := by
  rcases h with h | ⟨z, h1, h2⟩
  · exact .inl h
  · exact .inr ⟨z, h1, (hb.cell (p := ⟨z, 0, none⟩) (cell_lt h2)).trans h2⟩
theorem zCheck (good : Bool) (s : ByteArray) (h : NoSt w rv) :
    Calls Tryz.prog 40 #[rv, .bool good, .string s] w fun e w' => e = .returned (.int .i64 1) ∧ w = w' := by
  rcases h with rfl | ⟨z, rfl, c0⟩
  · go_enter Tryz.func40, Tryz.ntmps40
    go_wp2_with fail
    go_ret
    exact ⟨rfl, rfl⟩
  · have qm := fun (w : World) => run_eql_map_nil (P := Tryz.prog) w 44 _ _ none Tryz.underlying44
    go_enter Tryz.func40, Tryz.ntmps40
    go_wp2_with fail
    go_ret
    exact ⟨rfl, rfl⟩
theorem zFind (s : ByteArray) (h : NoSt w rv) :
    Calls Tryz.prog 43 #[rv, .string s] w fun e w' => e = .returned (.tuple #[.pointer none, .int .i64 1]) ∧ w = w' := by
  have HC := Lib.hid (zCheck true s h)
  clear h
  go_enter Tryz.func43, Tryz.ntmps43
  go_wp2_with (go_at_call 40; refine HC.out.mono ?_; rintro e w1 ⟨rfl, rfl⟩)
  go_ret2
  exact ⟨rfl, rfl⟩
theorem zText (s : ByteArray) (h : NoSt w rv) :
    Calls Tryz.prog 16 #[rv, .string s] w fun e w' => e = .returned (.tuple #[.string ⟨#[]⟩, .int .i64 1]) ∧ w = w' := by
  have HF := Lib.hid (zFind s h)
  clear h
  go_enter Tryz.func16, Tryz.ntmps16
  go_wp2_with (go_at_call 43; refine HF.out.mono ?_; rintro e w1 ⟨rfl, rfl⟩)
  go_ret2
  exact ⟨rfl, rfl⟩
theorem zLines (s : ByteArray) (h : NoSt w rv) :
    Calls Tryz.prog 63 #[rv, .string s] w fun e w' => e = .returned (.tuple #[.slice none 0 0, .int .i64 1]) ∧ w = w' := by
  have HF := Lib.hid (zFind s h)
  clear h
  go_enter Tryz.func63, Tryz.ntmps63
  go_wp2_with (go_at_call 43; refine HF.out.mono ?_; rintro e w1 ⟨rfl, rfl⟩)
  go_ret2
  exact ⟨rfl, rfl⟩
theorem zLength (s : ByteArray) (h : NoSt w rv) :
    Calls Tryz.prog 65 #[rv, .string s] w fun e w' => e = .returned (.tuple #[.int .i64 0, .int .i64 1]) ∧ w = w' := by
  have HF := Lib.hid (zFind s h)
  clear h
  go_enter Tryz.func65, Tryz.ntmps65
  go_wp2_with (go_at_call 43; refine HF.out.mono ?_; rintro e w1 ⟨rfl, rfl⟩)
  go_ret2
  exact ⟨rfl, rfl⟩
theorem zKind (s : ByteArray) (h : NoSt w rv) :
    Calls Tryz.prog 68 #[rv, .string s] w fun e w' => e = .returned (.int .i64 0) ∧ w = w' := by
  have HF := Lib.hid (zFind s h)
  clear h
  go_enter Tryz.func68, Tryz.ntmps68
  go_wp2_with (go_at_call 43; refine HF.out.mono ?_; rintro e w1 ⟨rfl, rfl⟩)
  go_ret
  exact ⟨rfl, rfl⟩
theorem zRename (s t : ByteArray) (h : NoSt w rv) :
    Calls Tryz.prog 21 #[rv, .string s, .string t] w fun e w' => e = .returned (.int .i64 1) ∧ w = w' := by
  have HF := Lib.hid (zFind s h)
  clear h
  go_enter Tryz.func21, Tryz.ntmps21
  go_wp2_with (go_at_call 43; refine HF.out.mono ?_; rintro e w1 ⟨rfl, rfl⟩)
  go_ret
  exact ⟨rfl, rfl⟩
theorem zAlias (t s : ByteArray) (h : NoSt w rv) :
    Calls Tryz.prog 22 #[rv, .string t, .string s] w fun e w' => e = .returned (.int .i64 1) ∧ w = w' := by
  have HF := Lib.hid (zFind s h)
  clear h
  go_enter Tryz.func22, Tryz.ntmps22
  go_wp2_with (go_at_call 43; refine HF.out.mono ?_; rintro e w1 ⟨rfl, rfl⟩)
  go_ret
  exact ⟨rfl, rfl⟩
theorem zChop (s : ByteArray) (h : NoSt w rv) :
    Calls Tryz.prog 23 #[rv, .string s] w fun e w' => e = .returned (.int .i64 1) ∧ w = w' := by
  have HF := Lib.hid (zFind s h)
  clear h
  go_enter Tryz.func23, Tryz.ntmps23
  go_wp2_with (go_at_call 43; refine HF.out.mono ?_; rintro e w1 ⟨rfl, rfl⟩)
  go_ret
  exact ⟨rfl, rfl⟩
theorem zPart (s : ByteArray) (a b : Int) (h : NoSt w rv) :
    Calls Tryz.prog 15 #[rv, .string s, .int .i64 a, .int .i64 b] w fun e w' => e = .returned (.int .i64 1) ∧ w = w' := by
  have HF := Lib.hid (zFind s h)
  clear h
  go_enter Tryz.func15, Tryz.ntmps15
  go_wp2_with (go_at_call 43; refine HF.out.mono ?_; rintro e w1 ⟨rfl, rfl⟩)
  go_ret
  exact ⟨rfl, rfl⟩
theorem zRemove (s : ByteArray) (h : NoSt w rv) :
    Calls Tryz.prog 20 #[rv, .string s] w fun e w' => e = .returned (.int .i64 1) ∧ w = w' := by
  have HC := Lib.hid (zCheck true s h)
  clear h
  go_enter Tryz.func20, Tryz.ntmps20
  go_wp2_with (go_at_call 40; refine HC.out.mono ?_; rintro e w1 ⟨rfl, rfl⟩)
  go_ret
  exact ⟨rfl, rfl⟩
theorem zDefine (s t : ByteArray) (ht : t.size ≤ maxLen) (h : NoSt w rv) :
    Calls Tryz.prog 14 #[rv, .string s, .string t] w fun e w' => e = .returned (.int .i64 1) ∧ w = w' := by
  have HT := Lib.hid (fun w => cText t ht w)
  have HC := Lib.hid (zCheck (textB t) s h)
  clear h
  generalize textB t = b at HT HC
  go_enter Tryz.func14, Tryz.ntmps14
  go_wp2_with (first
    | (go_at_call 41; refine (HT.out _).mono ?_; rintro e w1 ⟨rfl, rfl⟩)
    | (go_at_call 40; refine HC.out.mono ?_; rintro e w1 ⟨rfl, rfl⟩))
  go_ret
  exact ⟨rfl, rfl⟩
theorem zAppend (s t : ByteArray) (ht : t.size ≤ maxLen) (h : NoSt w rv) :
    Calls Tryz.prog 17 #[rv, .string s, .string t] w fun e w' => e = .returned (.int .i64 1) ∧ w = w' := by
  have HT := Lib.hid (fun w => cText t ht w)
  have HC := Lib.hid (zCheck (textB t) s h)
  clear h
  generalize textB t = b at HT HC
  go_enter Tryz.func17, Tryz.ntmps17
  go_wp2_with (first
    | (go_at_call 41; refine (HT.out _).mono ?_; rintro e w1 ⟨rfl, rfl⟩)
    | (go_at_call 40; refine HC.out.mono ?_; rintro e w1 ⟨rfl, rfl⟩))
  go_ret
  exact ⟨rfl, rfl⟩
theorem zMacro (s : ByteArray) (K : Nat → Prop) (v : Value) (ls : List Ln) (hv : LnsAt K w v ls) (hK : ∀ k, K k → k < w.heap.size) (h : NoSt w rv) :
    Calls Tryz.prog 18 #[rv, .string s, v] w fun e w' => e = .returned (.int .i64 1) ∧ Below w.heap.size w w' := by
  have HV := Lib.hid (cLns K v ls w hv hK)
  have HC := Lib.hid (fun (w1 : World) (hb : Below w.heap.size w w1) => zCheck (lnsB ls) s (h.below hb))
  clear h hv hK
  generalize lnsB ls = b at HV HC
  go_enter Tryz.func18, Tryz.ntmps18
  go_wp2_with (first
    | (go_at_call 46; refine HV.out.mono ?_; rintro e w1 ⟨rfl, hb1⟩)
    | (go_at_call 40; refine (HC.out _ hb1).mono ?_; rintro e w2 ⟨rfl, rfl⟩))
  go_ret
  exact ⟨rfl, hb1⟩
theorem zAdd (s : ByteArray) (K : Nat → Prop) (v : Value) (ls : List Ln) (hv : LnsAt K w v ls) (hK : ∀ k, K k → k < w.heap.size) (h : NoSt w rv) :
    Calls Tryz.prog 19 #[rv, .string s, v] w fun e w' => e = .returned (.int .i64 1) ∧ Below w.heap.size w w' := by
  have HV := Lib.hid (cLns K v ls w hv hK)
  have HC := Lib.hid (fun (w1 : World) (hb : Below w.heap.size w w1) => zCheck (lnsB ls) s (h.below hb))
  clear h hv hK
  generalize lnsB ls = b at HV HC
  go_enter Tryz.func19, Tryz.ntmps19
  go_wp2_with (first
    | (go_at_call 46; refine HV.out.mono ?_; rintro e w1 ⟨rfl, hb1⟩)
    | (go_at_call 40; refine (HC.out _ hb1).mono ?_; rintro e w2 ⟨rfl, rfl⟩))
  go_ret
  exact ⟨rfl, hb1⟩
theorem zCopy (h : NoSt w rv) : Calls Tryz.prog 12 #[rv] w fun e w' => e = .returned (.pointer none) ∧ w = w' := by
  rcases h with rfl | ⟨z, rfl, c0⟩
  · go_enter Tryz.func12, Tryz.ntmps12
    go_wp2_with fail
    go_ret
    exact ⟨rfl, rfl⟩
  · have qm := fun (w : World) => run_eql_map_nil (P := Tryz.prog) w 44 _ _ none Tryz.underlying44
    go_enter Tryz.func12, Tryz.ntmps12
    go_wp2_with fail
    go_ret
    exact ⟨rfl, rfl⟩
set_option maxHeartbeats 1000000 in
theorem zDo0 (d : Dd) (A : Option Addr) (n c : Nat) (hz3 : d.text.size ≤ 140737488351232) (h : NoSt w rv) :
    Calls Tryz.prog 9 #[rv, .agg #[.int .i64 0, .string d.name, .string d.other, .string d.text, .slice A n c, .int .i64 d.a, .int .i64 d.b]] w fun x w' => x = .returned (.int .i64 1) ∧ Below w.heap.size w w' := by
  have hb : Below w.heap.size w (w.alloc (.cells #[.int .i64 0, .string d.name, .string d.other, .string d.text, .slice A n c, .int .i64 d.a, .int .i64 d.b] 33)) := (Below.refl _ _).alloc (Nat.le_refl _) _
  have HB := Lib.hid hb
  have hbk := Blk.new w 33 #[.int .i64 0, .string d.name, .string d.other, .string d.text, .slice A n c, .int .i64 d.a, .int .i64 d.b]
  have h1 := h.below hb
  have x0 := hbk.cell 0
  have x1 := hbk.cell 1
  have x3 := hbk.cell 3
  simp only [List.getElem?_toArray, List.getElem?_cons_zero, List.getElem?_cons_succ] at x0 x1 x3
  have HC := Lib.hid (zDefine d.name d.text (by unfold maxLen; omega) h1)
  clear h h1 hbk hb
  go_enter Tryz.func9, Tryz.ntmps9
  go_wp2_with (go_at_call 14; refine HC.out.mono ?_; rintro e w1 ⟨rfl, rfl⟩)
  go_ret
  exact ⟨rfl, HB.out⟩
set_option maxHeartbeats 1000000 in
theorem zDo1 (d : Dd) (A : Option Addr) (n c : Nat) (hz3 : d.text.size ≤ 140737488351232) (h : NoSt w rv) :
    Calls Tryz.prog 9 #[rv, .agg #[.int .i64 1, .string d.name, .string d.other, .string d.text, .slice A n c, .int .i64 d.a, .int .i64 d.b]] w fun x w' => x = .returned (.int .i64 1) ∧ Below w.heap.size w w' := by
  have hb : Below w.heap.size w (w.alloc (.cells #[.int .i64 1, .string d.name, .string d.other, .string d.text, .slice A n c, .int .i64 d.a, .int .i64 d.b] 33)) := (Below.refl _ _).alloc (Nat.le_refl _) _
  have HB := Lib.hid hb
  have hbk := Blk.new w 33 #[.int .i64 1, .string d.name, .string d.other, .string d.text, .slice A n c, .int .i64 d.a, .int .i64 d.b]
  have h1 := h.below hb
  have x0 := hbk.cell 0
  have x1 := hbk.cell 1
  have x3 := hbk.cell 3
  simp only [List.getElem?_toArray, List.getElem?_cons_zero, List.getElem?_cons_succ] at x0 x1 x3
  have HC := Lib.hid (zAppend d.name d.text (by unfold maxLen; omega) h1)
  clear h h1 hbk hb
  go_enter Tryz.func9, Tryz.ntmps9
  go_wp2_with (go_at_call 17; refine HC.out.mono ?_; rintro e w1 ⟨rfl, rfl⟩)
  go_ret
  exact ⟨rfl, HB.out⟩
set_option maxHeartbeats 1000000 in
theorem zDo2 (d : Dd) (A : Option Addr) (n c : Nat) (K : Nat → Prop) (hv : LnsAt K w (.slice A n c) d.lines) (hK : ∀ k, K k → k < w.heap.size) (h : NoSt w rv) :
    Calls Tryz.prog 9 #[rv, .agg #[.int .i64 2, .string d.name, .string d.other, .string d.text, .slice A n c, .int .i64 d.a, .int .i64 d.b]] w fun x w' => x = .returned (.int .i64 1) ∧ Below w.heap.size w w' := by
  have hb : Below w.heap.size w (w.alloc (.cells #[.int .i64 2, .string d.name, .string d.other, .string d.text, .slice A n c, .int .i64 d.a, .int .i64 d.b] 33)) := (Below.refl _ _).alloc (Nat.le_refl _) _
  have HB := Lib.hid hb
  have hbk := Blk.new w 33 #[.int .i64 2, .string d.name, .string d.other, .string d.text, .slice A n c, .int .i64 d.a, .int .i64 d.b]
  have h1 := h.below hb
  have hv1 := hv.stay (K' := K) (Kept.of_below hb hK) (fun _ h => h)
  have hK1 := fun (k : Nat) (hk : K k) => Nat.lt_of_lt_of_le (hK k hk) hb.size
  have x0 := hbk.cell 0
  have x1 := hbk.cell 1
  have x4 := hbk.cell 4
  simp only [List.getElem?_toArray, List.getElem?_cons_zero, List.getElem?_cons_succ] at x0 x1 x4
  have HC := Lib.hid (zMacro d.name K (.slice A n c) d.lines hv1 hK1 h1)
  clear hv hK hv1 hK1 h h1 hbk hb
  go_enter Tryz.func9, Tryz.ntmps9
  go_wp2_with (go_at_call 18; refine HC.out.mono ?_; rintro e w1 ⟨rfl, hb1⟩)
  go_ret
  exact ⟨rfl, ntrans HB.out hb1⟩
set_option maxHeartbeats 1000000 in
theorem zDo3 (d : Dd) (A : Option Addr) (n c : Nat) (K : Nat → Prop) (hv : LnsAt K w (.slice A n c) d.lines) (hK : ∀ k, K k → k < w.heap.size) (h : NoSt w rv) :
    Calls Tryz.prog 9 #[rv, .agg #[.int .i64 3, .string d.name, .string d.other, .string d.text, .slice A n c, .int .i64 d.a, .int .i64 d.b]] w fun x w' => x = .returned (.int .i64 1) ∧ Below w.heap.size w w' := by
  have hb : Below w.heap.size w (w.alloc (.cells #[.int .i64 3, .string d.name, .string d.other, .string d.text, .slice A n c, .int .i64 d.a, .int .i64 d.b] 33)) := (Below.refl _ _).alloc (Nat.le_refl _) _
  have HB := Lib.hid hb
  have hbk := Blk.new w 33 #[.int .i64 3, .string d.name, .string d.other, .string d.text, .slice A n c, .int .i64 d.a, .int .i64 d.b]
  have h1 := h.below hb
  have hv1 := hv.stay (K' := K) (Kept.of_below hb hK) (fun _ h => h)
  have hK1 := fun (k : Nat) (hk : K k) => Nat.lt_of_lt_of_le (hK k hk) hb.size
  have x0 := hbk.cell 0
  have x1 := hbk.cell 1
  have x4 := hbk.cell 4
  simp only [List.getElem?_toArray, List.getElem?_cons_zero, List.getElem?_cons_succ] at x0 x1 x4
  have HC := Lib.hid (zAdd d.name K (.slice A n c) d.lines hv1 hK1 h1)
  clear hv hK hv1 hK1 h h1 hbk hb
  go_enter Tryz.func9, Tryz.ntmps9
  go_wp2_with (go_at_call 19; refine HC.out.mono ?_; rintro e w1 ⟨rfl, hb1⟩)
  go_ret
  exact ⟨rfl, ntrans HB.out hb1⟩
set_option maxHeartbeats 1000000 in
theorem zDo4 (d : Dd) (A : Option Addr) (n c : Nat) (h : NoSt w rv) :
    Calls Tryz.prog 9 #[rv, .agg #[.int .i64 4, .string d.name, .string d.other, .string d.text, .slice A n c, .int .i64 d.a, .int .i64 d.b]] w fun x w' => x = .returned (.int .i64 1) ∧ Below w.heap.size w w' := by
  have hb : Below w.heap.size w (w.alloc (.cells #[.int .i64 4, .string d.name, .string d.other, .string d.text, .slice A n c, .int .i64 d.a, .int .i64 d.b] 33)) := (Below.refl _ _).alloc (Nat.le_refl _) _
  have HB := Lib.hid hb
  have hbk := Blk.new w 33 #[.int .i64 4, .string d.name, .string d.other, .string d.text, .slice A n c, .int .i64 d.a, .int .i64 d.b]
  have h1 := h.below hb
  have x0 := hbk.cell 0
  have x1 := hbk.cell 1
  simp only [List.getElem?_toArray, List.getElem?_cons_zero, List.getElem?_cons_succ] at x0 x1
  have HC := Lib.hid (zRemove d.name h1)
  clear h h1 hbk hb
  go_enter Tryz.func9, Tryz.ntmps9
  go_wp2_with (go_at_call 20; refine HC.out.mono ?_; rintro e w1 ⟨rfl, rfl⟩)
  go_ret
  exact ⟨rfl, HB.out⟩
set_option maxHeartbeats 1000000 in
theorem zDo5 (d : Dd) (A : Option Addr) (n c : Nat) (h : NoSt w rv) :
    Calls Tryz.prog 9 #[rv, .agg #[.int .i64 5, .string d.name, .string d.other, .string d.text, .slice A n c, .int .i64 d.a, .int .i64 d.b]] w fun x w' => x = .returned (.int .i64 1) ∧ Below w.heap.size w w' := by
  have hb : Below w.heap.size w (w.alloc (.cells #[.int .i64 5, .string d.name, .string d.other, .string d.text, .slice A n c, .int .i64 d.a, .int .i64 d.b] 33)) := (Below.refl _ _).alloc (Nat.le_refl _) _
  have HB := Lib.hid hb
  have hbk := Blk.new w 33 #[.int .i64 5, .string d.name, .string d.other, .string d.text, .slice A n c, .int .i64 d.a, .int .i64 d.b]
  have h1 := h.below hb
  have x0 := hbk.cell 0
  have x1 := hbk.cell 1
  have x2 := hbk.cell 2
  simp only [List.getElem?_toArray, List.getElem?_cons_zero, List.getElem?_cons_succ] at x0 x1 x2
  have HC := Lib.hid (zRename d.name d.other h1)
  clear h h1 hbk hb
  go_enter Tryz.func9, Tryz.ntmps9
  go_wp2_with (go_at_call 21; refine HC.out.mono ?_; rintro e w1 ⟨rfl, rfl⟩)
  go_ret
  exact ⟨rfl, HB.out⟩
set_option maxHeartbeats 1000000 in
theorem zDo6 (d : Dd) (A : Option Addr) (n c : Nat) (h : NoSt w rv) :
    Calls Tryz.prog 9 #[rv, .agg #[.int .i64 6, .string d.name, .string d.other, .string d.text, .slice A n c, .int .i64 d.a, .int .i64 d.b]] w fun x w' => x = .returned (.int .i64 1) ∧ Below w.heap.size w w' := by
  have hb : Below w.heap.size w (w.alloc (.cells #[.int .i64 6, .string d.name, .string d.other, .string d.text, .slice A n c, .int .i64 d.a, .int .i64 d.b] 33)) := (Below.refl _ _).alloc (Nat.le_refl _) _
  have HB := Lib.hid hb
  have hbk := Blk.new w 33 #[.int .i64 6, .string d.name, .string d.other, .string d.text, .slice A n c, .int .i64 d.a, .int .i64 d.b]
  have h1 := h.below hb
  have x0 := hbk.cell 0
  have x1 := hbk.cell 1
  have x2 := hbk.cell 2
  simp only [List.getElem?_toArray, List.getElem?_cons_zero, List.getElem?_cons_succ] at x0 x1 x2
  have HC := Lib.hid (zAlias d.name d.other h1)
  clear h h1 hbk hb
  go_enter Tryz.func9, Tryz.ntmps9
  go_wp2_with (go_at_call 22; refine HC.out.mono ?_; rintro e w1 ⟨rfl, rfl⟩)
  go_ret
  exact ⟨rfl, HB.out⟩
set_option maxHeartbeats 1000000 in
theorem zDo7 (d : Dd) (A : Option Addr) (n c : Nat) (h : NoSt w rv) :
    Calls Tryz.prog 9 #[rv, .agg #[.int .i64 7, .string d.name, .string d.other, .string d.text, .slice A n c, .int .i64 d.a, .int .i64 d.b]] w fun x w' => x = .returned (.int .i64 1) ∧ Below w.heap.size w w' := by
  have hb : Below w.heap.size w (w.alloc (.cells #[.int .i64 7, .string d.name, .string d.other, .string d.text, .slice A n c, .int .i64 d.a, .int .i64 d.b] 33)) := (Below.refl _ _).alloc (Nat.le_refl _) _
  have HB := Lib.hid hb
  have hbk := Blk.new w 33 #[.int .i64 7, .string d.name, .string d.other, .string d.text, .slice A n c, .int .i64 d.a, .int .i64 d.b]
  have h1 := h.below hb
  have x0 := hbk.cell 0
  have x1 := hbk.cell 1
  simp only [List.getElem?_toArray, List.getElem?_cons_zero, List.getElem?_cons_succ] at x0 x1
  have HC := Lib.hid (zChop d.name h1)
  clear h h1 hbk hb
  go_enter Tryz.func9, Tryz.ntmps9
  go_wp2_with (go_at_call 23; refine HC.out.mono ?_; rintro e w1 ⟨rfl, rfl⟩)
  go_ret
  exact ⟨rfl, HB.out⟩
set_option maxHeartbeats 1000000 in
theorem zDo8 (d : Dd) (A : Option Addr) (n c : Nat) (h : NoSt w rv) :
    Calls Tryz.prog 9 #[rv, .agg #[.int .i64 8, .string d.name, .string d.other, .string d.text, .slice A n c, .int .i64 d.a, .int .i64 d.b]] w fun x w' => x = .returned (.int .i64 1) ∧ Below w.heap.size w w' := by
  have hb : Below w.heap.size w (w.alloc (.cells #[.int .i64 8, .string d.name, .string d.other, .string d.text, .slice A n c, .int .i64 d.a, .int .i64 d.b] 33)) := (Below.refl _ _).alloc (Nat.le_refl _) _
  have HB := Lib.hid hb
  have hbk := Blk.new w 33 #[.int .i64 8, .string d.name, .string d.other, .string d.text, .slice A n c, .int .i64 d.a, .int .i64 d.b]
  have h1 := h.below hb
  have x0 := hbk.cell 0
  have x1 := hbk.cell 1
  have x5 := hbk.cell 5
  have x6 := hbk.cell 6
  simp only [List.getElem?_toArray, List.getElem?_cons_zero, List.getElem?_cons_succ] at x0 x1 x5 x6
  have HC := Lib.hid (zPart d.name d.a d.b h1)
  clear h h1 hbk hb
  go_enter Tryz.func9, Tryz.ntmps9
  go_wp2_with (go_at_call 15; refine HC.out.mono ?_; rintro e w1 ⟨rfl, rfl⟩)
  go_ret
  exact ⟨rfl, HB.out⟩
/-- do, of a store that is nil, or was not made. -/
theorem zDo (d : Dd) (K : Nat → Prop) (v : Value) (hv : LnsAt K w v d.lines) (hK : ∀ k, K k → k < w.heap.size) (hz3 : d.text.size ≤ 140737488351232) (hw : 0 ≤ d.what ∧ d.what < 9) (h : NoSt w rv) :
    Calls Tryz.prog 9 #[rv, ddV d v] w fun x w' => x = .returned (.int .i64 1) ∧ Below w.heap.size w w' := by
  obtain ⟨A, n, c, rfl⟩ : ∃ A n c, v = .slice A n c := by
    obtain ⟨A, c, e, _⟩ := hv
    exact ⟨A, _, c, e⟩
  by_cases e0 : d.what = 0
  · rw [show ddV d (.slice A n c) = .agg #[.int .i64 0, .string d.name, .string d.other, .string d.text, .slice A n c, .int .i64 d.a, .int .i64 d.b] by unfold ddV; rw [e0]]
    exact zDo0 d A n c hz3 h
  by_cases e1 : d.what = 1
  · rw [show ddV d (.slice A n c) = .agg #[.int .i64 1, .string d.name, .string d.other, .string d.text, .slice A n c, .int .i64 d.a, .int .i64 d.b] by unfold ddV; rw [e1]]
    exact zDo1 d A n c hz3 h
  by_cases e2 : d.what = 2
  · rw [show ddV d (.slice A n c) = .agg #[.int .i64 2, .string d.name, .string d.other, .string d.text, .slice A n c, .int .i64 d.a, .int .i64 d.b] by unfold ddV; rw [e2]]
    exact zDo2 d A n c K hv hK h
  by_cases e3 : d.what = 3
  · rw [show ddV d (.slice A n c) = .agg #[.int .i64 3, .string d.name, .string d.other, .string d.text, .slice A n c, .int .i64 d.a, .int .i64 d.b] by unfold ddV; rw [e3]]
    exact zDo3 d A n c K hv hK h
  by_cases e4 : d.what = 4
  · rw [show ddV d (.slice A n c) = .agg #[.int .i64 4, .string d.name, .string d.other, .string d.text, .slice A n c, .int .i64 d.a, .int .i64 d.b] by unfold ddV; rw [e4]]
    exact zDo4 d A n c h
  by_cases e5 : d.what = 5
  · rw [show ddV d (.slice A n c) = .agg #[.int .i64 5, .string d.name, .string d.other, .string d.text, .slice A n c, .int .i64 d.a, .int .i64 d.b] by unfold ddV; rw [e5]]
    exact zDo5 d A n c h
  by_cases e6 : d.what = 6
  · rw [show ddV d (.slice A n c) = .agg #[.int .i64 6, .string d.name, .string d.other, .string d.text, .slice A n c, .int .i64 d.a, .int .i64 d.b] by unfold ddV; rw [e6]]
    exact zDo6 d A n c h
  by_cases e7 : d.what = 7
  · rw [show ddV d (.slice A n c) = .agg #[.int .i64 7, .string d.name, .string d.other, .string d.text, .slice A n c, .int .i64 d.a, .int .i64 d.b] by unfold ddV; rw [e7]]
    exact zDo7 d A n c h
  by_cases e8 : d.what = 8
  · rw [show ddV d (.slice A n c) = .agg #[.int .i64 8, .string d.name, .string d.other, .string d.text, .slice A n c, .int .i64 d.a, .int .i64 d.b] by unfold ddV; rw [e8]]
    exact zDo8 d A n c h
  omega
end
end Go.Proofs.YtbedddgfijpbcaaGreat
