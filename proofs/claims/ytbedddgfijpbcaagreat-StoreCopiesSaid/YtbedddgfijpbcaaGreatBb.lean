/- Walk: a deed is done. -/
import Derived.Test.YtbedddgfijpbcaaGreatQx
import Derived.Test.YtbedddgfijpbcaaGreatDa
namespace Go.Proofs.YtbedddgfijpbcaaGreat
open Go.RowKit Go.Maps Go.WideMaps

/-- What a deed changes. -/
inductive Chg where
  | same
  | put (n : ByteArray) (en : En)
  | del (n : ByteArray)
  | ren (n t : ByteArray)
  | ali (t n : ByteArray)
/-- What a deed answers. -/
def doE (L : List Ent) (E : Nat → En) (d : Dd) : Int :=
  if d.what = 0 then dfE L d.name d.text else if d.what = 1 then apE L E d.name d.text else if d.what = 2 then mcE L d.name d.lines else if d.what = 3 then adE L E d.name d.lines else if d.what = 4 then erI (nameB d.name) 6 else
  if d.what = 5 then rnE L d.name d.other else if d.what = 6 then alE L d.name d.other else if d.what = 7 then fdE L d.name else if d.what = 8 then fdE L d.name else 0
def orSame (e : Int) (c : Chg) : Chg := if e = 0 then c else .same
def doC (L : List Ent) (E : Nat → En) (d : Dd) : Chg :=
  if d.what = 0 then orSame (dfE L d.name d.text) (.put d.name (.str d.text)) else if d.what = 1 then orSame (apE L E d.name d.text) (.put d.name (.str (apT L E d.name d.text))) else if d.what = 2 then orSame (mcE L d.name d.lines) (.put d.name (.mac d.lines)) else
  if d.what = 3 then orSame (adE L E d.name d.lines) (.put d.name (.mac (adL L E d.name d.lines))) else if d.what = 4 then orSame (erI (nameB d.name) 6) (.del d.name) else if d.what = 5 then orSame (rnE L d.name d.other) (.ren d.name d.other) else
  if d.what = 6 then orSame (alE L d.name d.other) (.ali d.name d.other) else if d.what = 7 then orSame (fdE L d.name) (.put d.name (chE (E (getR L d.name)))) else if d.what = 8 then orSame (fdE L d.name) (.put d.name (ptE (E (getR L d.name)) d.a d.b)) else .same
/-- What is left behind a deed. -/
def Done (U F : Nat → Prop) (g bm : Nat) (w w' : World) (L : List Ent) (E : Nat → En) : Chg → Prop
  | .same => Below w.heap.size w w'
  | .put n en => PutTo U F g bm w w' L E n en
  | .del n => ∃ R, StAt U F R w' g bm (delR L n) E ∧ Turn U w w'
  | .ren n t => ∃ R, StAt U F R w' g bm (putR (delR L n) t (getR L n)) E ∧ Turn U w w'
  | .ali t n => ∃ R, StAt U F R w' g bm (putR L t (getR L n)) E ∧ Turn U w w'
section
variable {U F : Nat → Prop} {R : Nat → Option Nat} {w w' : World} {g bm : Nat} {L : List Ent} {E : Nat → En}
theorem Done.from_ {w1 : World} {c : Chg} (hb : Below w.heap.size w w1) (h : Done U F g bm w1 w' L E c) : Done U F g bm w w' L E c := by
  cases c with
  | same => exact ntrans hb h
  | put n en => exact PutTo.from_ hb h
  | del n =>
    obtain ⟨R, h1, h2⟩ := h
    exact ⟨R, h1, (Turn.of_below hb : Turn U w w1).trans h2 (fun _ _ h => h)⟩
  | ren n t =>
    obtain ⟨R, h1, h2⟩ := h
    exact ⟨R, h1, (Turn.of_below hb : Turn U w w1).trans h2 (fun _ _ h => h)⟩
  | ali n t =>
    obtain ⟨R, h1, h2⟩ := h
    exact ⟨R, h1, (Turn.of_below hb : Turn U w w1).trans h2 (fun _ _ h => h)⟩
theorem done_put {pe : Int} {s : ByteArray} {en : En} (h : PutEnd pe U F g bm w w' L E s en) : Done U F g bm w w' L E (orSame pe (.put s en)) := by
  unfold orSame
  by_cases hp : pe = 0
  · rw [if_pos hp]; exact h.2 hp
  · rw [if_neg hp]; exact h.1 hp
theorem ToEnd.put_ {s : ByteArray} {en : En} (hh : hasB L s = true) (h : ToEnd U F g bm w w' L E (getR L s) en) : PutTo U F g bm w w' L E s en := by
  obtain ⟨U', F', R', h1, h2, h3, h4⟩ := h
  exact ⟨getR L s, U', F', R', by rw [put_same hh]; exact h1, h2, h3, h4, fun _ => rfl, fun e => by rw [hh] at e; cases e⟩
theorem done_find {s : ByteArray} {en : En} (h : (hasB L s = false → w = w') ∧ (hasB L s = true → ToEnd U F g bm w w' L E (getR L s) en)) : Done U F g bm w w' L E (orSame (fdE L s) (.put s en)) := by
  unfold orSame fdE
  cases hh : hasB L s
  · exact (show Below w.heap.size w w' by rw [← h.1 hh]; exact Below.refl _ _)
  · exact (h.2 hh).put_ hh
theorem below_eq (h : w = w') : Below w.heap.size w w' := by subst h; exact Below.refl _ _
theorem erI_ne {b : Bool} (h : erI b 6 ≠ 0) : b = false := by
  cases b
  · rfl
  · exact absurd rfl h
theorem erI_eq {b : Bool} (h : erI b 6 = 0) : b = true := by
  cases b
  · cases h
  · rfl
theorem done_one {pe : Int} {c : Chg} (h1 : pe ≠ 0 → w = w') (h2 : pe = 0 → Done U F g bm w w' L E c) : Done U F g bm w w' L E (orSame pe c) := by
  unfold orSame
  by_cases hp : pe = 0
  · rw [if_pos hp]; exact h2 hp
  · rw [if_neg hp]; exact below_eq (h1 hp)
/-- A deed's fields. -/
def ddV (d : Dd) (v : Value) : Value := .agg #[.int .i64 d.what, .string d.name, .string d.other, .string d.text, v, .int .i64 d.a, .int .i64 d.b]
set_option maxHeartbeats 2000000 in
/-- do, deed 0. -/
theorem cDo0 (d : Dd) (K : Nat → Prop) (A : Option Addr) (n c : Nat) (_hv : LnsAt K w (.slice A n c) d.lines) (_hK : ∀ k, K k → k < w.heap.size) (hz1 : d.name.size ≤ 140737488351232) (_hz2 : d.other.size ≤ 140737488351232) (hz3 : d.text.size ≤ 140737488351232) (_hz4 : d.lines.length ≤ 10000000000000)
    (_hwa : -9223372036854775808 ≤ d.a ∧ d.a ≤ 9223372036854775807) (_hwb : -9223372036854775808 ≤ d.b ∧ d.b ≤ 9223372036854775807) (h : StAt U F R w g bm L E) :
    Calls Tryz.prog 9 #[.pointer (some ⟨g, 0, none⟩), .agg #[.int .i64 0, .string d.name, .string d.other, .string d.text, .slice A n c, .int .i64 d.a, .int .i64 d.b]] w fun x w' => x = .returned (.int .i64 (dfE L d.name d.text)) ∧ Done U F g bm w w' L E (orSame (dfE L d.name d.text) (.put d.name (.str d.text))) := by
  have hb : Below w.heap.size w (w.alloc (.cells #[.int .i64 0, .string d.name, .string d.other, .string d.text, .slice A n c, .int .i64 d.a, .int .i64 d.b] 33)) := (Below.refl _ _).alloc (Nat.le_refl _) _
  have hbk := Blk.new w 33 #[.int .i64 0, .string d.name, .string d.other, .string d.text, .slice A n c, .int .i64 d.a, .int .i64 d.b]
  have h1 := h.below hb
  have x0 := hbk.cell 0
  have x1 := hbk.cell 1
  have x2 := hbk.cell 2
  have x3 := hbk.cell 3
  have x4 := hbk.cell 4
  have x5 := hbk.cell 5
  have x6 := hbk.cell 6
  simp only [List.getElem?_toArray, List.getElem?_cons_zero, List.getElem?_cons_succ] at x0 x1 x2 x3 x4 x5 x6
  have HC : Hid (Calls Tryz.prog 14 #[.pointer (some ⟨g, 0, none⟩), .string d.name, .string d.text] (w.alloc (.cells #[.int .i64 0, .string d.name, .string d.other, .string d.text, .slice A n c, .int .i64 d.a, .int .i64 d.b] 33)) fun x w' => x = .returned (.int .i64 (dfE L d.name d.text)) ∧ Done U F g bm w w' L E (orSame (dfE L d.name d.text) (.put d.name (.str d.text)))) := Lib.hid ((cDefine d.name d.text (by unfold maxLen; omega) (by unfold maxLen; omega) h1).mono fun x w' ⟨q1, q2⟩ => ⟨q1, Done.from_ hb (done_put q2)⟩)
  clear h h1 hbk hb
  generalize orSame (dfE L d.name d.text) (.put d.name (.str d.text)) = cg at HC ⊢
  generalize dfE L d.name d.text = pe at HC ⊢
  go_enter Tryz.func9, Tryz.ntmps9
  go_wp2_with (go_at_call 14; refine HC.out.mono ?_; rintro e w1 ⟨rfl, hd⟩)
  go_ret
  exact ⟨rfl, hd⟩
set_option maxHeartbeats 2000000 in
/-- do, deed 1. -/
theorem cDo1 (d : Dd) (K : Nat → Prop) (A : Option Addr) (n c : Nat) (_hv : LnsAt K w (.slice A n c) d.lines) (_hK : ∀ k, K k → k < w.heap.size) (hz1 : d.name.size ≤ 140737488351232) (_hz2 : d.other.size ≤ 140737488351232) (hz3 : d.text.size ≤ 140737488351232) (_hz4 : d.lines.length ≤ 10000000000000)
    (_hwa : -9223372036854775808 ≤ d.a ∧ d.a ≤ 9223372036854775807) (_hwb : -9223372036854775808 ≤ d.b ∧ d.b ≤ 9223372036854775807) (h : StAt U F R w g bm L E) :
    Calls Tryz.prog 9 #[.pointer (some ⟨g, 0, none⟩), .agg #[.int .i64 1, .string d.name, .string d.other, .string d.text, .slice A n c, .int .i64 d.a, .int .i64 d.b]] w fun x w' => x = .returned (.int .i64 (apE L E d.name d.text)) ∧ Done U F g bm w w' L E (orSame (apE L E d.name d.text) (.put d.name (.str (apT L E d.name d.text)))) := by
  have hb : Below w.heap.size w (w.alloc (.cells #[.int .i64 1, .string d.name, .string d.other, .string d.text, .slice A n c, .int .i64 d.a, .int .i64 d.b] 33)) := (Below.refl _ _).alloc (Nat.le_refl _) _
  have hbk := Blk.new w 33 #[.int .i64 1, .string d.name, .string d.other, .string d.text, .slice A n c, .int .i64 d.a, .int .i64 d.b]
  have h1 := h.below hb
  have x0 := hbk.cell 0
  have x1 := hbk.cell 1
  have x2 := hbk.cell 2
  have x3 := hbk.cell 3
  have x4 := hbk.cell 4
  have x5 := hbk.cell 5
  have x6 := hbk.cell 6
  simp only [List.getElem?_toArray, List.getElem?_cons_zero, List.getElem?_cons_succ] at x0 x1 x2 x3 x4 x5 x6
  have HC : Hid (Calls Tryz.prog 17 #[.pointer (some ⟨g, 0, none⟩), .string d.name, .string d.text] (w.alloc (.cells #[.int .i64 1, .string d.name, .string d.other, .string d.text, .slice A n c, .int .i64 d.a, .int .i64 d.b] 33)) fun x w' => x = .returned (.int .i64 (apE L E d.name d.text)) ∧ Done U F g bm w w' L E (orSame (apE L E d.name d.text) (.put d.name (.str (apT L E d.name d.text))))) := Lib.hid ((cAppend d.name d.text (by unfold maxLen; omega) (by unfold maxLen; omega) h1).mono fun x w' ⟨q1, q2⟩ => ⟨q1, Done.from_ hb (done_put q2)⟩)
  clear h h1 hbk hb
  generalize orSame (apE L E d.name d.text) (.put d.name (.str (apT L E d.name d.text))) = cg at HC ⊢
  generalize apE L E d.name d.text = pe at HC ⊢
  go_enter Tryz.func9, Tryz.ntmps9
  go_wp2_with (go_at_call 17; refine HC.out.mono ?_; rintro e w1 ⟨rfl, hd⟩)
  go_ret
  exact ⟨rfl, hd⟩
set_option maxHeartbeats 2000000 in
/-- do, deed 2. -/
theorem cDo2 (d : Dd) (K : Nat → Prop) (A : Option Addr) (n c : Nat) (hv : LnsAt K w (.slice A n c) d.lines) (hK : ∀ k, K k → k < w.heap.size) (hz1 : d.name.size ≤ 140737488351232) (_hz2 : d.other.size ≤ 140737488351232) (_hz3 : d.text.size ≤ 140737488351232) (_hz4 : d.lines.length ≤ 10000000000000)
    (_hwa : -9223372036854775808 ≤ d.a ∧ d.a ≤ 9223372036854775807) (_hwb : -9223372036854775808 ≤ d.b ∧ d.b ≤ 9223372036854775807) (h : StAt U F R w g bm L E) :
    Calls Tryz.prog 9 #[.pointer (some ⟨g, 0, none⟩), .agg #[.int .i64 2, .string d.name, .string d.other, .string d.text, .slice A n c, .int .i64 d.a, .int .i64 d.b]] w fun x w' => x = .returned (.int .i64 (mcE L d.name d.lines)) ∧ Done U F g bm w w' L E (orSame (mcE L d.name d.lines) (.put d.name (.mac d.lines))) := by
  have hb : Below w.heap.size w (w.alloc (.cells #[.int .i64 2, .string d.name, .string d.other, .string d.text, .slice A n c, .int .i64 d.a, .int .i64 d.b] 33)) := (Below.refl _ _).alloc (Nat.le_refl _) _
  have hbk := Blk.new w 33 #[.int .i64 2, .string d.name, .string d.other, .string d.text, .slice A n c, .int .i64 d.a, .int .i64 d.b]
  have h1 := h.below hb
  have hv1 := hv.stay (K' := K) (Kept.of_below hb hK) (fun _ h => h)
  have hK1 := fun (k : Nat) (hk : K k) => Nat.lt_of_lt_of_le (hK k hk) hb.size
  have x0 := hbk.cell 0
  have x1 := hbk.cell 1
  have x2 := hbk.cell 2
  have x3 := hbk.cell 3
  have x4 := hbk.cell 4
  have x5 := hbk.cell 5
  have x6 := hbk.cell 6
  simp only [List.getElem?_toArray, List.getElem?_cons_zero, List.getElem?_cons_succ] at x0 x1 x2 x3 x4 x5 x6
  have HC : Hid (Calls Tryz.prog 18 #[.pointer (some ⟨g, 0, none⟩), .string d.name, .slice A n c] (w.alloc (.cells #[.int .i64 2, .string d.name, .string d.other, .string d.text, .slice A n c, .int .i64 d.a, .int .i64 d.b] 33)) fun x w' => x = .returned (.int .i64 (mcE L d.name d.lines)) ∧ Done U F g bm w w' L E (orSame (mcE L d.name d.lines) (.put d.name (.mac d.lines)))) := Lib.hid ((cMacro d.name K (.slice A n c) d.lines (by unfold maxLen; omega) h1 hv1 hK1).mono fun x w' ⟨q1, q2⟩ => ⟨q1, Done.from_ hb (done_put q2)⟩)
  clear hv hK hv1 hK1 h h1 hbk hb
  generalize orSame (mcE L d.name d.lines) (.put d.name (.mac d.lines)) = cg at HC ⊢
  generalize mcE L d.name d.lines = pe at HC ⊢
  go_enter Tryz.func9, Tryz.ntmps9
  go_wp2_with (go_at_call 18; refine HC.out.mono ?_; rintro e w1 ⟨rfl, hd⟩)
  go_ret
  exact ⟨rfl, hd⟩
set_option maxHeartbeats 2000000 in
/-- do, deed 3. -/
theorem cDo3 (d : Dd) (K : Nat → Prop) (A : Option Addr) (n c : Nat) (hv : LnsAt K w (.slice A n c) d.lines) (hK : ∀ k, K k → k < w.heap.size) (hz1 : d.name.size ≤ 140737488351232) (_hz2 : d.other.size ≤ 140737488351232) (_hz3 : d.text.size ≤ 140737488351232) (hz4 : d.lines.length ≤ 10000000000000)
    (_hwa : -9223372036854775808 ≤ d.a ∧ d.a ≤ 9223372036854775807) (_hwb : -9223372036854775808 ≤ d.b ∧ d.b ≤ 9223372036854775807) (h : StAt U F R w g bm L E) :
    Calls Tryz.prog 9 #[.pointer (some ⟨g, 0, none⟩), .agg #[.int .i64 3, .string d.name, .string d.other, .string d.text, .slice A n c, .int .i64 d.a, .int .i64 d.b]] w fun x w' => x = .returned (.int .i64 (adE L E d.name d.lines)) ∧ Done U F g bm w w' L E (orSame (adE L E d.name d.lines) (.put d.name (.mac (adL L E d.name d.lines)))) := by
  have hb : Below w.heap.size w (w.alloc (.cells #[.int .i64 3, .string d.name, .string d.other, .string d.text, .slice A n c, .int .i64 d.a, .int .i64 d.b] 33)) := (Below.refl _ _).alloc (Nat.le_refl _) _
  have hbk := Blk.new w 33 #[.int .i64 3, .string d.name, .string d.other, .string d.text, .slice A n c, .int .i64 d.a, .int .i64 d.b]
  have h1 := h.below hb
  have hv1 := hv.stay (K' := K) (Kept.of_below hb hK) (fun _ h => h)
  have hK1 := fun (k : Nat) (hk : K k) => Nat.lt_of_lt_of_le (hK k hk) hb.size
  have x0 := hbk.cell 0
  have x1 := hbk.cell 1
  have x2 := hbk.cell 2
  have x3 := hbk.cell 3
  have x4 := hbk.cell 4
  have x5 := hbk.cell 5
  have x6 := hbk.cell 6
  simp only [List.getElem?_toArray, List.getElem?_cons_zero, List.getElem?_cons_succ] at x0 x1 x2 x3 x4 x5 x6
  have HC : Hid (Calls Tryz.prog 19 #[.pointer (some ⟨g, 0, none⟩), .string d.name, .slice A n c] (w.alloc (.cells #[.int .i64 3, .string d.name, .string d.other, .string d.text, .slice A n c, .int .i64 d.a, .int .i64 d.b] 33)) fun x w' => x = .returned (.int .i64 (adE L E d.name d.lines)) ∧ Done U F g bm w w' L E (orSame (adE L E d.name d.lines) (.put d.name (.mac (adL L E d.name d.lines))))) := Lib.hid ((cAdd d.name K (.slice A n c) d.lines hz4 (by unfold maxLen; omega) h1 hv1 hK1).mono fun x w' ⟨q1, q2⟩ => ⟨q1, Done.from_ hb (done_put q2)⟩)
  clear hv hK hv1 hK1 h h1 hbk hb
  generalize orSame (adE L E d.name d.lines) (.put d.name (.mac (adL L E d.name d.lines))) = cg at HC ⊢
  generalize adE L E d.name d.lines = pe at HC ⊢
  go_enter Tryz.func9, Tryz.ntmps9
  go_wp2_with (go_at_call 19; refine HC.out.mono ?_; rintro e w1 ⟨rfl, hd⟩)
  go_ret
  exact ⟨rfl, hd⟩
set_option maxHeartbeats 2000000 in
/-- do, deed 4. -/
theorem cDo4 (d : Dd) (K : Nat → Prop) (A : Option Addr) (n c : Nat) (_hv : LnsAt K w (.slice A n c) d.lines) (_hK : ∀ k, K k → k < w.heap.size) (hz1 : d.name.size ≤ 140737488351232) (_hz2 : d.other.size ≤ 140737488351232) (_hz3 : d.text.size ≤ 140737488351232) (_hz4 : d.lines.length ≤ 10000000000000)
    (_hwa : -9223372036854775808 ≤ d.a ∧ d.a ≤ 9223372036854775807) (_hwb : -9223372036854775808 ≤ d.b ∧ d.b ≤ 9223372036854775807) (h : StAt U F R w g bm L E) :
    Calls Tryz.prog 9 #[.pointer (some ⟨g, 0, none⟩), .agg #[.int .i64 4, .string d.name, .string d.other, .string d.text, .slice A n c, .int .i64 d.a, .int .i64 d.b]] w fun x w' => x = .returned (.int .i64 (erI (nameB d.name) 6)) ∧ Done U F g bm w w' L E (orSame (erI (nameB d.name) 6) (.del d.name)) := by
  have hb : Below w.heap.size w (w.alloc (.cells #[.int .i64 4, .string d.name, .string d.other, .string d.text, .slice A n c, .int .i64 d.a, .int .i64 d.b] 33)) := (Below.refl _ _).alloc (Nat.le_refl _) _
  have hbk := Blk.new w 33 #[.int .i64 4, .string d.name, .string d.other, .string d.text, .slice A n c, .int .i64 d.a, .int .i64 d.b]
  have h1 := h.below hb
  have x0 := hbk.cell 0
  have x1 := hbk.cell 1
  have x2 := hbk.cell 2
  have x3 := hbk.cell 3
  have x4 := hbk.cell 4
  have x5 := hbk.cell 5
  have x6 := hbk.cell 6
  simp only [List.getElem?_toArray, List.getElem?_cons_zero, List.getElem?_cons_succ] at x0 x1 x2 x3 x4 x5 x6
  have HC : Hid (Calls Tryz.prog 20 #[.pointer (some ⟨g, 0, none⟩), .string d.name] (w.alloc (.cells #[.int .i64 4, .string d.name, .string d.other, .string d.text, .slice A n c, .int .i64 d.a, .int .i64 d.b] 33)) fun x w' => x = .returned (.int .i64 (erI (nameB d.name) 6)) ∧ Done U F g bm w w' L E (orSame (erI (nameB d.name) 6) (.del d.name))) := Lib.hid ((cRemove d.name (by unfold maxLen; omega) h1).mono fun x w' ⟨q1, q2, q3⟩ => ⟨q1, Done.from_ hb (done_one (fun e => q2 (erI_ne e)) (fun e => by have := q3 (erI_eq e); exact ⟨_, this.1, this.2⟩))⟩)
  clear h h1 hbk hb
  generalize orSame (erI (nameB d.name) 6) (.del d.name) = cg at HC ⊢
  generalize erI (nameB d.name) 6 = pe at HC ⊢
  go_enter Tryz.func9, Tryz.ntmps9
  go_wp2_with (go_at_call 20; refine HC.out.mono ?_; rintro e w1 ⟨rfl, hd⟩)
  go_ret
  exact ⟨rfl, hd⟩
set_option maxHeartbeats 2000000 in
/-- do, deed 5. -/
theorem cDo5 (d : Dd) (K : Nat → Prop) (A : Option Addr) (n c : Nat) (_hv : LnsAt K w (.slice A n c) d.lines) (_hK : ∀ k, K k → k < w.heap.size) (hz1 : d.name.size ≤ 140737488351232) (hz2 : d.other.size ≤ 140737488351232) (_hz3 : d.text.size ≤ 140737488351232) (_hz4 : d.lines.length ≤ 10000000000000)
    (_hwa : -9223372036854775808 ≤ d.a ∧ d.a ≤ 9223372036854775807) (_hwb : -9223372036854775808 ≤ d.b ∧ d.b ≤ 9223372036854775807) (h : StAt U F R w g bm L E) :
    Calls Tryz.prog 9 #[.pointer (some ⟨g, 0, none⟩), .agg #[.int .i64 5, .string d.name, .string d.other, .string d.text, .slice A n c, .int .i64 d.a, .int .i64 d.b]] w fun x w' => x = .returned (.int .i64 (rnE L d.name d.other)) ∧ Done U F g bm w w' L E (orSame (rnE L d.name d.other) (.ren d.name d.other)) := by
  have hb : Below w.heap.size w (w.alloc (.cells #[.int .i64 5, .string d.name, .string d.other, .string d.text, .slice A n c, .int .i64 d.a, .int .i64 d.b] 33)) := (Below.refl _ _).alloc (Nat.le_refl _) _
  have hbk := Blk.new w 33 #[.int .i64 5, .string d.name, .string d.other, .string d.text, .slice A n c, .int .i64 d.a, .int .i64 d.b]
  have h1 := h.below hb
  have x0 := hbk.cell 0
  have x1 := hbk.cell 1
  have x2 := hbk.cell 2
  have x3 := hbk.cell 3
  have x4 := hbk.cell 4
  have x5 := hbk.cell 5
  have x6 := hbk.cell 6
  simp only [List.getElem?_toArray, List.getElem?_cons_zero, List.getElem?_cons_succ] at x0 x1 x2 x3 x4 x5 x6
  have HC : Hid (Calls Tryz.prog 21 #[.pointer (some ⟨g, 0, none⟩), .string d.name, .string d.other] (w.alloc (.cells #[.int .i64 5, .string d.name, .string d.other, .string d.text, .slice A n c, .int .i64 d.a, .int .i64 d.b] 33)) fun x w' => x = .returned (.int .i64 (rnE L d.name d.other)) ∧ Done U F g bm w w' L E (orSame (rnE L d.name d.other) (.ren d.name d.other))) := Lib.hid ((cRename d.name d.other (by unfold maxLen; omega) (by unfold maxLen; omega) h1).mono fun x w' ⟨q1, q2, q3⟩ => ⟨q1, Done.from_ hb (done_one q2 (fun e => ⟨_, (q3 e).1, (q3 e).2⟩))⟩)
  clear h h1 hbk hb
  generalize orSame (rnE L d.name d.other) (.ren d.name d.other) = cg at HC ⊢
  generalize rnE L d.name d.other = pe at HC ⊢
  go_enter Tryz.func9, Tryz.ntmps9
  go_wp2_with (go_at_call 21; refine HC.out.mono ?_; rintro e w1 ⟨rfl, hd⟩)
  go_ret
  exact ⟨rfl, hd⟩
set_option maxHeartbeats 2000000 in
/-- do, deed 6. -/
theorem cDo6 (d : Dd) (K : Nat → Prop) (A : Option Addr) (n c : Nat) (_hv : LnsAt K w (.slice A n c) d.lines) (_hK : ∀ k, K k → k < w.heap.size) (hz1 : d.name.size ≤ 140737488351232) (hz2 : d.other.size ≤ 140737488351232) (_hz3 : d.text.size ≤ 140737488351232) (_hz4 : d.lines.length ≤ 10000000000000)
    (_hwa : -9223372036854775808 ≤ d.a ∧ d.a ≤ 9223372036854775807) (_hwb : -9223372036854775808 ≤ d.b ∧ d.b ≤ 9223372036854775807) (h : StAt U F R w g bm L E) :
    Calls Tryz.prog 9 #[.pointer (some ⟨g, 0, none⟩), .agg #[.int .i64 6, .string d.name, .string d.other, .string d.text, .slice A n c, .int .i64 d.a, .int .i64 d.b]] w fun x w' => x = .returned (.int .i64 (alE L d.name d.other)) ∧ Done U F g bm w w' L E (orSame (alE L d.name d.other) (.ali d.name d.other)) := by
  have hb : Below w.heap.size w (w.alloc (.cells #[.int .i64 6, .string d.name, .string d.other, .string d.text, .slice A n c, .int .i64 d.a, .int .i64 d.b] 33)) := (Below.refl _ _).alloc (Nat.le_refl _) _
  have hbk := Blk.new w 33 #[.int .i64 6, .string d.name, .string d.other, .string d.text, .slice A n c, .int .i64 d.a, .int .i64 d.b]
  have h1 := h.below hb
  have x0 := hbk.cell 0
  have x1 := hbk.cell 1
  have x2 := hbk.cell 2
  have x3 := hbk.cell 3
  have x4 := hbk.cell 4
  have x5 := hbk.cell 5
  have x6 := hbk.cell 6
  simp only [List.getElem?_toArray, List.getElem?_cons_zero, List.getElem?_cons_succ] at x0 x1 x2 x3 x4 x5 x6
  have HC : Hid (Calls Tryz.prog 22 #[.pointer (some ⟨g, 0, none⟩), .string d.name, .string d.other] (w.alloc (.cells #[.int .i64 6, .string d.name, .string d.other, .string d.text, .slice A n c, .int .i64 d.a, .int .i64 d.b] 33)) fun x w' => x = .returned (.int .i64 (alE L d.name d.other)) ∧ Done U F g bm w w' L E (orSame (alE L d.name d.other) (.ali d.name d.other))) := Lib.hid ((cAlias d.name d.other (by unfold maxLen; omega) (by unfold maxLen; omega) h1).mono fun x w' ⟨q1, q2, q3⟩ => ⟨q1, Done.from_ hb (done_one q2 (fun e => ⟨_, (q3 e).1, (q3 e).2⟩))⟩)
  clear h h1 hbk hb
  generalize orSame (alE L d.name d.other) (.ali d.name d.other) = cg at HC ⊢
  generalize alE L d.name d.other = pe at HC ⊢
  go_enter Tryz.func9, Tryz.ntmps9
  go_wp2_with (go_at_call 22; refine HC.out.mono ?_; rintro e w1 ⟨rfl, hd⟩)
  go_ret
  exact ⟨rfl, hd⟩
set_option maxHeartbeats 2000000 in
/-- do, deed 7. -/
theorem cDo7 (d : Dd) (K : Nat → Prop) (A : Option Addr) (n c : Nat) (_hv : LnsAt K w (.slice A n c) d.lines) (_hK : ∀ k, K k → k < w.heap.size) (hz1 : d.name.size ≤ 140737488351232) (_hz2 : d.other.size ≤ 140737488351232) (_hz3 : d.text.size ≤ 140737488351232) (_hz4 : d.lines.length ≤ 10000000000000)
    (_hwa : -9223372036854775808 ≤ d.a ∧ d.a ≤ 9223372036854775807) (_hwb : -9223372036854775808 ≤ d.b ∧ d.b ≤ 9223372036854775807) (h : StAt U F R w g bm L E) :
    Calls Tryz.prog 9 #[.pointer (some ⟨g, 0, none⟩), .agg #[.int .i64 7, .string d.name, .string d.other, .string d.text, .slice A n c, .int .i64 d.a, .int .i64 d.b]] w fun x w' => x = .returned (.int .i64 (fdE L d.name)) ∧ Done U F g bm w w' L E (orSame (fdE L d.name) (.put d.name (chE (E (getR L d.name))))) := by
  have hb : Below w.heap.size w (w.alloc (.cells #[.int .i64 7, .string d.name, .string d.other, .string d.text, .slice A n c, .int .i64 d.a, .int .i64 d.b] 33)) := (Below.refl _ _).alloc (Nat.le_refl _) _
  have hbk := Blk.new w 33 #[.int .i64 7, .string d.name, .string d.other, .string d.text, .slice A n c, .int .i64 d.a, .int .i64 d.b]
  have h1 := h.below hb
  have x0 := hbk.cell 0
  have x1 := hbk.cell 1
  have x2 := hbk.cell 2
  have x3 := hbk.cell 3
  have x4 := hbk.cell 4
  have x5 := hbk.cell 5
  have x6 := hbk.cell 6
  simp only [List.getElem?_toArray, List.getElem?_cons_zero, List.getElem?_cons_succ] at x0 x1 x2 x3 x4 x5 x6
  have HC : Hid (Calls Tryz.prog 23 #[.pointer (some ⟨g, 0, none⟩), .string d.name] (w.alloc (.cells #[.int .i64 7, .string d.name, .string d.other, .string d.text, .slice A n c, .int .i64 d.a, .int .i64 d.b] 33)) fun x w' => x = .returned (.int .i64 (fdE L d.name)) ∧ Done U F g bm w w' L E (orSame (fdE L d.name) (.put d.name (chE (E (getR L d.name)))))) := Lib.hid ((cChop d.name (by unfold maxLen; omega) h1).mono fun x w' ⟨q1, q2⟩ => ⟨q1, Done.from_ hb (done_find q2)⟩)
  clear h h1 hbk hb
  generalize orSame (fdE L d.name) (.put d.name (chE (E (getR L d.name)))) = cg at HC ⊢
  generalize fdE L d.name = pe at HC ⊢
  go_enter Tryz.func9, Tryz.ntmps9
  go_wp2_with (go_at_call 23; refine HC.out.mono ?_; rintro e w1 ⟨rfl, hd⟩)
  go_ret
  exact ⟨rfl, hd⟩
set_option maxHeartbeats 2000000 in
/-- do, deed 8. -/
theorem cDo8 (d : Dd) (K : Nat → Prop) (A : Option Addr) (n c : Nat) (_hv : LnsAt K w (.slice A n c) d.lines) (_hK : ∀ k, K k → k < w.heap.size) (hz1 : d.name.size ≤ 140737488351232) (_hz2 : d.other.size ≤ 140737488351232) (_hz3 : d.text.size ≤ 140737488351232) (_hz4 : d.lines.length ≤ 10000000000000)
    (hwa : -9223372036854775808 ≤ d.a ∧ d.a ≤ 9223372036854775807) (hwb : -9223372036854775808 ≤ d.b ∧ d.b ≤ 9223372036854775807) (h : StAt U F R w g bm L E) :
    Calls Tryz.prog 9 #[.pointer (some ⟨g, 0, none⟩), .agg #[.int .i64 8, .string d.name, .string d.other, .string d.text, .slice A n c, .int .i64 d.a, .int .i64 d.b]] w fun x w' => x = .returned (.int .i64 (fdE L d.name)) ∧ Done U F g bm w w' L E (orSame (fdE L d.name) (.put d.name (ptE (E (getR L d.name)) d.a d.b))) := by
  have hb : Below w.heap.size w (w.alloc (.cells #[.int .i64 8, .string d.name, .string d.other, .string d.text, .slice A n c, .int .i64 d.a, .int .i64 d.b] 33)) := (Below.refl _ _).alloc (Nat.le_refl _) _
  have hbk := Blk.new w 33 #[.int .i64 8, .string d.name, .string d.other, .string d.text, .slice A n c, .int .i64 d.a, .int .i64 d.b]
  have h1 := h.below hb
  have x0 := hbk.cell 0
  have x1 := hbk.cell 1
  have x2 := hbk.cell 2
  have x3 := hbk.cell 3
  have x4 := hbk.cell 4
  have x5 := hbk.cell 5
  have x6 := hbk.cell 6
  simp only [List.getElem?_toArray, List.getElem?_cons_zero, List.getElem?_cons_succ] at x0 x1 x2 x3 x4 x5 x6
  have HC : Hid (Calls Tryz.prog 15 #[.pointer (some ⟨g, 0, none⟩), .string d.name, .int .i64 d.a, .int .i64 d.b] (w.alloc (.cells #[.int .i64 8, .string d.name, .string d.other, .string d.text, .slice A n c, .int .i64 d.a, .int .i64 d.b] 33)) fun x w' => x = .returned (.int .i64 (fdE L d.name)) ∧ Done U F g bm w w' L E (orSame (fdE L d.name) (.put d.name (ptE (E (getR L d.name)) d.a d.b)))) := Lib.hid ((cPart d.name (by unfold maxLen; omega) d.a d.b hwa.1 hwb.1 h1).mono fun x w' ⟨q1, q2⟩ => ⟨q1, Done.from_ hb (done_find q2)⟩)
  clear h h1 hbk hb
  generalize orSame (fdE L d.name) (.put d.name (ptE (E (getR L d.name)) d.a d.b)) = cg at HC ⊢
  generalize fdE L d.name = pe at HC ⊢
  go_enter Tryz.func9, Tryz.ntmps9
  go_wp2_with (go_at_call 15; refine HC.out.mono ?_; rintro e w1 ⟨rfl, hd⟩)
  go_ret
  exact ⟨rfl, hd⟩
set_option maxHeartbeats 2000000 in
/-- do, of a deed that is none. -/
theorem cDo9 (d : Dd) (A : Option Addr) (n c : Nat) (e0 : d.what ≠ 0) (e1 : d.what ≠ 1) (e2 : d.what ≠ 2) (e3 : d.what ≠ 3) (e4 : d.what ≠ 4) (e5 : d.what ≠ 5) (e6 : d.what ≠ 6) (e7 : d.what ≠ 7) (e8 : d.what ≠ 8) :
    Calls Tryz.prog 9 #[.pointer (some ⟨g, 0, none⟩), ddV d (.slice A n c)] w fun x w' => x = .returned (.int .i64 0) ∧ Below w.heap.size w w' := by
  unfold ddV
  have hb : Below w.heap.size w (w.alloc (.cells #[.int .i64 d.what, .string d.name, .string d.other, .string d.text, .slice A n c, .int .i64 d.a, .int .i64 d.b] 33)) := (Below.refl _ _).alloc (Nat.le_refl _) _
  have HB := Lib.hid hb
  have hbk := Blk.new w 33 #[.int .i64 d.what, .string d.name, .string d.other, .string d.text, .slice A n c, .int .i64 d.a, .int .i64 d.b]
  have x0 := hbk.cell 0
  simp only [List.getElem?_toArray, List.getElem?_cons_zero] at x0
  have q0 : (d.what == 0) = false := by simpa using e0
  have q1 : (d.what == 1) = false := by simpa using e1
  have q2 : (d.what == 2) = false := by simpa using e2
  have q3 : (d.what == 3) = false := by simpa using e3
  have q4 : (d.what == 4) = false := by simpa using e4
  have q5 : (d.what == 5) = false := by simpa using e5
  have q6 : (d.what == 6) = false := by simpa using e6
  have q7 : (d.what == 7) = false := by simpa using e7
  have q8 : (d.what == 8) = false := by simpa using e8
  clear hb hbk
  generalize d.what = wh at *
  go_enter Tryz.func9, Tryz.ntmps9
  go_wp2_with fail
  go_ret
  exact ⟨rfl, HB.out⟩
/-- do. -/
theorem cDo (d : Dd) (K : Nat → Prop) (v : Value) (hv : LnsAt K w v d.lines) (hK : ∀ k, K k → k < w.heap.size) (hz1 : d.name.size ≤ 140737488351232) (hz2 : d.other.size ≤ 140737488351232) (hz3 : d.text.size ≤ 140737488351232) (hz4 : d.lines.length ≤ 10000000000000)
    (hwa : -9223372036854775808 ≤ d.a ∧ d.a ≤ 9223372036854775807) (hwb : -9223372036854775808 ≤ d.b ∧ d.b ≤ 9223372036854775807) (h : StAt U F R w g bm L E) :
    Calls Tryz.prog 9 #[.pointer (some ⟨g, 0, none⟩), ddV d v] w fun x w' => x = .returned (.int .i64 (doE L E d)) ∧ Done U F g bm w w' L E (doC L E d) := by
  obtain ⟨A, n, c, rfl⟩ : ∃ A n c, v = .slice A n c := by
    obtain ⟨A, c, e, _⟩ := hv
    exact ⟨A, _, c, e⟩
  by_cases e0 : d.what = 0
  · rw [show doE L E d = dfE L d.name d.text by unfold doE; rw [if_pos e0], show doC L E d = orSame (dfE L d.name d.text) (.put d.name (.str d.text)) by unfold doC; rw [if_pos e0], show ddV d (.slice A n c) = .agg #[.int .i64 0, .string d.name, .string d.other, .string d.text, .slice A n c, .int .i64 d.a, .int .i64 d.b] by unfold ddV; rw [e0]]
    exact cDo0 d K A n c hv hK hz1 hz2 hz3 hz4 hwa hwb h
  by_cases e1 : d.what = 1
  · rw [show doE L E d = apE L E d.name d.text by unfold doE; rw [if_neg e0]; rw [if_pos e1], show doC L E d = orSame (apE L E d.name d.text) (.put d.name (.str (apT L E d.name d.text))) by unfold doC; rw [if_neg e0]; rw [if_pos e1], show ddV d (.slice A n c) = .agg #[.int .i64 1, .string d.name, .string d.other, .string d.text, .slice A n c, .int .i64 d.a, .int .i64 d.b] by unfold ddV; rw [e1]]
    exact cDo1 d K A n c hv hK hz1 hz2 hz3 hz4 hwa hwb h
  by_cases e2 : d.what = 2
  · rw [show doE L E d = mcE L d.name d.lines by unfold doE; rw [if_neg e0]; rw [if_neg e1]; rw [if_pos e2], show doC L E d = orSame (mcE L d.name d.lines) (.put d.name (.mac d.lines)) by unfold doC; rw [if_neg e0]; rw [if_neg e1]; rw [if_pos e2], show ddV d (.slice A n c) = .agg #[.int .i64 2, .string d.name, .string d.other, .string d.text, .slice A n c, .int .i64 d.a, .int .i64 d.b] by unfold ddV; rw [e2]]
    exact cDo2 d K A n c hv hK hz1 hz2 hz3 hz4 hwa hwb h
  by_cases e3 : d.what = 3
  · rw [show doE L E d = adE L E d.name d.lines by unfold doE; rw [if_neg e0]; rw [if_neg e1]; rw [if_neg e2]; rw [if_pos e3], show doC L E d = orSame (adE L E d.name d.lines) (.put d.name (.mac (adL L E d.name d.lines))) by unfold doC; rw [if_neg e0]; rw [if_neg e1]; rw [if_neg e2]; rw [if_pos e3], show ddV d (.slice A n c) = .agg #[.int .i64 3, .string d.name, .string d.other, .string d.text, .slice A n c, .int .i64 d.a, .int .i64 d.b] by unfold ddV; rw [e3]]
    exact cDo3 d K A n c hv hK hz1 hz2 hz3 hz4 hwa hwb h
  by_cases e4 : d.what = 4
  · rw [show doE L E d = erI (nameB d.name) 6 by unfold doE; rw [if_neg e0]; rw [if_neg e1]; rw [if_neg e2]; rw [if_neg e3]; rw [if_pos e4], show doC L E d = orSame (erI (nameB d.name) 6) (.del d.name) by unfold doC; rw [if_neg e0]; rw [if_neg e1]; rw [if_neg e2]; rw [if_neg e3]; rw [if_pos e4], show ddV d (.slice A n c) = .agg #[.int .i64 4, .string d.name, .string d.other, .string d.text, .slice A n c, .int .i64 d.a, .int .i64 d.b] by unfold ddV; rw [e4]]
    exact cDo4 d K A n c hv hK hz1 hz2 hz3 hz4 hwa hwb h
  by_cases e5 : d.what = 5
  · rw [show doE L E d = rnE L d.name d.other by unfold doE; rw [if_neg e0]; rw [if_neg e1]; rw [if_neg e2]; rw [if_neg e3]; rw [if_neg e4]; rw [if_pos e5], show doC L E d = orSame (rnE L d.name d.other) (.ren d.name d.other) by unfold doC; rw [if_neg e0]; rw [if_neg e1]; rw [if_neg e2]; rw [if_neg e3]; rw [if_neg e4]; rw [if_pos e5], show ddV d (.slice A n c) = .agg #[.int .i64 5, .string d.name, .string d.other, .string d.text, .slice A n c, .int .i64 d.a, .int .i64 d.b] by unfold ddV; rw [e5]]
    exact cDo5 d K A n c hv hK hz1 hz2 hz3 hz4 hwa hwb h
  by_cases e6 : d.what = 6
  · rw [show doE L E d = alE L d.name d.other by unfold doE; rw [if_neg e0]; rw [if_neg e1]; rw [if_neg e2]; rw [if_neg e3]; rw [if_neg e4]; rw [if_neg e5]; rw [if_pos e6], show doC L E d = orSame (alE L d.name d.other) (.ali d.name d.other) by unfold doC; rw [if_neg e0]; rw [if_neg e1]; rw [if_neg e2]; rw [if_neg e3]; rw [if_neg e4]; rw [if_neg e5]; rw [if_pos e6], show ddV d (.slice A n c) = .agg #[.int .i64 6, .string d.name, .string d.other, .string d.text, .slice A n c, .int .i64 d.a, .int .i64 d.b] by unfold ddV; rw [e6]]
    exact cDo6 d K A n c hv hK hz1 hz2 hz3 hz4 hwa hwb h
  by_cases e7 : d.what = 7
  · rw [show doE L E d = fdE L d.name by unfold doE; rw [if_neg e0]; rw [if_neg e1]; rw [if_neg e2]; rw [if_neg e3]; rw [if_neg e4]; rw [if_neg e5]; rw [if_neg e6]; rw [if_pos e7], show doC L E d = orSame (fdE L d.name) (.put d.name (chE (E (getR L d.name)))) by unfold doC; rw [if_neg e0]; rw [if_neg e1]; rw [if_neg e2]; rw [if_neg e3]; rw [if_neg e4]; rw [if_neg e5]; rw [if_neg e6]; rw [if_pos e7], show ddV d (.slice A n c) = .agg #[.int .i64 7, .string d.name, .string d.other, .string d.text, .slice A n c, .int .i64 d.a, .int .i64 d.b] by unfold ddV; rw [e7]]
    exact cDo7 d K A n c hv hK hz1 hz2 hz3 hz4 hwa hwb h
  by_cases e8 : d.what = 8
  · rw [show doE L E d = fdE L d.name by unfold doE; rw [if_neg e0]; rw [if_neg e1]; rw [if_neg e2]; rw [if_neg e3]; rw [if_neg e4]; rw [if_neg e5]; rw [if_neg e6]; rw [if_neg e7]; rw [if_pos e8], show doC L E d = orSame (fdE L d.name) (.put d.name (ptE (E (getR L d.name)) d.a d.b)) by unfold doC; rw [if_neg e0]; rw [if_neg e1]; rw [if_neg e2]; rw [if_neg e3]; rw [if_neg e4]; rw [if_neg e5]; rw [if_neg e6]; rw [if_neg e7]; rw [if_pos e8], show ddV d (.slice A n c) = .agg #[.int .i64 8, .string d.name, .string d.other, .string d.text, .slice A n c, .int .i64 d.a, .int .i64 d.b] by unfold ddV; rw [e8]]
    exact cDo8 d K A n c hv hK hz1 hz2 hz3 hz4 hwa hwb h
  rw [show doE L E d = 0 by unfold doE; rw [if_neg e0]; rw [if_neg e1]; rw [if_neg e2]; rw [if_neg e3]; rw [if_neg e4]; rw [if_neg e5]; rw [if_neg e6]; rw [if_neg e7]; rw [if_neg e8], show doC L E d = .same by unfold doC; rw [if_neg e0]; rw [if_neg e1]; rw [if_neg e2]; rw [if_neg e3]; rw [if_neg e4]; rw [if_neg e5]; rw [if_neg e6]; rw [if_neg e7]; rw [if_neg e8]]
  exact cDo9 d A n c e0 e1 e2 e3 e4 e5 e6 e7 e8
end
end Go.Proofs.YtbedddgfijpbcaaGreat
