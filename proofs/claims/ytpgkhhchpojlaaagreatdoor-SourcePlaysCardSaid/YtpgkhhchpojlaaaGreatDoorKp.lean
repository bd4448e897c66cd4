/- Walk of the document's stack: Shift. Walks: a deed, as the document has it. -/
import Derived.Test.YtpgkhhchpojlaaaGreatDoorKm
import Derived.Test.YtpgkhhchpojlaaaGreatDoorKn
import Derived.Test.YtpgkhhchpojlaaaGreatDoorLz
import Derived.Test.YtpgkhhchpojlaaaGreatDoorKf
import Derived.Test.YtpgkhhchpojlaaaGreatDoorKi
import Derived.Test.YtpgkhhchpojlaaaGreatDoorKj
import Derived.Test.YtpgkhhchpojlaaaGreatDoorDa
namespace Go.Proofs.YtpgkhhchpojlaaaGreatDoor
open Go.RowKit Go.Maps Go.WideMaps

section
variable {U K : Nat → Prop} {w w' : World} {x : Nat} {fs : List Fr}
/-- Shift. -/
theorem nShift (n : Int) (h : RKt U K w x fs) :
    Calls Tryz.prog 31 #[.pointer (some ⟨x, 0, none⟩), .int .i64 n] w fun e w' => e = .returned (.int .i64 (shE fs n)) ∧ KTo U K w w' x (shF fs n) := by
  by_cases hno : (n < 0 ∨ 100 < n) ∨ macN fs = 0
  · exact nShiftNo n hno h
  · have h1 : ¬ n < 0 := fun h => hno (.inl (.inl h))
    have h2 : ¬ 100 < n := fun h => hno (.inl (.inr h))
    have h0 : ¬ macN fs = 0 := fun h => hno (.inr h)
    by_cases a : n ≤ ((frI fs (macN fs - 1)).args.length : Nat) <;> by_cases b : 0 < (frI fs (macN fs - 1)).args.length
    · exact nShiftA n h h1 h2 h0 ⟨a, b⟩
    · exact nShiftB n h h1 h2 h0 ⟨a, b⟩
    · exact nShiftC n h h1 h2 h0 ⟨a, b⟩
    · exact nShiftD n h h1 h2 h0 ⟨a, b⟩
end
end Go.Proofs.YtpgkhhchpojlaaaGreatDoor
namespace Go.Proofs.YtpgkhhchpojlaaaGreatDoor
open Go.RowKit Go.Maps Go.WideMaps

section
variable {U K : Nat → Prop} {w w' : World} {x : Nat} {fs : List Fr}
theorem Two.end_ {w0 w5 w6 : World} (h2 : Two w w0) (h : RKt U K w x fs) {fs' : List Fr} (hk : KTo U K w0 w5 x fs') (hT : Turn (· = w.heap.size + 1) w5 w6) : KTo U K w w6 x fs' := by
  have hs := h.sets
  obtain ⟨U1, K1, k1, k2, k3, k4⟩ := hk
  have e := h2.size
  refine ⟨U1, K1, k1.turn hT (fun i hi e2 => ?_) (fun i hi e2 => ?_), ((Turn.of_below h2.below : Turn U w w0).trans k2 (fun _ _ h => h)).trans hT (fun i hi e2 => by omega), fun i hi => ?_, fun i hi => ?_⟩
  · rcases k3 i hi with h | h
    · have := hs.2.1 i h; omega
    · omega
  · rcases k4 i hi with h | h
    · have := hs.2.2.1 i h; omega
    · omega
  · rcases k3 i hi with h | h
    · exact .inl h
    · exact .inr (by omega)
  · rcases k4 i hi with h | h
    · exact .inl h
    · exact .inr (by omega)
theorem Two.blk {w0 w5 : World} (h2 : Two w w0) (h : RKt U K w x fs) {fs' : List Fr} (hk : KTo U K w0 w5 x fs') : Blk w5 (w.heap.size + 1) 31 #[.string ⟨#[]⟩, .bool false, .int .i64 0, .int .i64 0, .slice none 0 0] := by
  obtain ⟨_, _, _, hT, _, _⟩ := hk
  exact hT.blk h2.res (fun hu => by have := h.sets.2.1 _ hu; omega)
set_option maxRecDepth 100000 in
set_option maxHeartbeats 1000000 in
theorem nTold0 (d : Dd) (A : Option Addr) (n c : Nat) (A2 : Option Addr) (n2 c2 : Nat) (hz1 : d.name.size ≤ maxLen) (hz2 : d.text.size ≤ 1000000) (h : RKt U K w x fs) (hw : d.what = 0) :
    Calls Tryz.prog 10 #[.pointer (some ⟨x, 0, none⟩), ddV d A n c A2 n2 c2] w fun e w' => LnOut w w' e zLn (putE (nmdB d.name && rdB d.text) fs) ∧ KTo U K w w' x (putF (nmdB d.name && rdB d.text) fs (filFr d.name d.text)) := by
  obtain ⟨w0, hw0⟩ : ∃ w0, w0 = (w.alloc (.cells #[.int .i64 d.what, .string d.name, .string d.text, .slice A n c, .slice A2 n2 c2, .int .i64 d.n] 38)).alloc (.cells #[.string ⟨#[]⟩, .bool false, .int .i64 0, .int .i64 0, .slice none 0 0] 31) := ⟨_, rfl⟩
  have hB1 : Below w.heap.size w (w.alloc (.cells #[.int .i64 d.what, .string d.name, .string d.text, .slice A n c, .slice A2 n2 c2, .int .i64 d.n] 38)) := (Below.refl _ _).alloc (Nat.le_refl _) _
  have h2 : Two w w0 := by
    rw [hw0]
    exact ⟨hB1.alloc hB1.size _, by simp, blk_at2 (by simp)⟩
  have hdb : Blk w0 w.heap.size 38 #[.int .i64 d.what, .string d.name, .string d.text, .slice A n c, .slice A2 n2 c2, .int .i64 d.n] := by rw [hw0]; exact (Blk.new _ _ _).alloc _
  have c0 := hdb.cell 0
  have c1 := hdb.cell 1
  have c2' := hdb.cell 2
  have c3 := hdb.cell 3
  have c4 := hdb.cell 4
  have c5 := hdb.cell 5
  simp only [List.getElem?_toArray, List.getElem?_cons_zero, List.getElem?_cons_succ] at c0 c1 c2' c3 c4 c5
  have h0 := h.below h2.below
  have HEnd := Lib.hid (fun (w5 w6 : World) (fs' : List Fr) (hk : KTo U K w0 w5 x fs') (hT : Turn (· = w.heap.size + 1) w5 w6) => h2.end_ h hk hT)
  have HBlk := Lib.hid (fun (w5 : World) (fs' : List Fr) (hk : KTo U K w0 w5 x fs') => h2.blk h hk)
  have h2s := h2.size
  have HC := Lib.hid (nFile d.name d.text hz1 hz2 h0)
  rw [hw] at c0 hw0
  clear hdb h0 h2 hB1 h
  unfold ddV
  rw [hw]
  subst hw0
  go_enter Tryz.func10, Tryz.ntmps10
  go_wp2_with (go_at_call 24; refine HC.out.mono ?_; rintro e w5 ⟨rfl, hk5⟩; have hr5 := HBlk.out _ _ hk5; have hf0 := hr5.frozen 0; have hf1 := hr5.frozen 1; have hf2 := hr5.frozen 2; have hf3 := hr5.frozen 3; have hf4 := hr5.frozen 4; have d0 := hr5.cell 0; have d1 := hr5.cell 1; have d2 := hr5.cell 2; have d3 := hr5.cell 3; have d4 := hr5.cell 4; simp only [List.getElem?_toArray, List.getElem?_cons_zero, List.getElem?_cons_succ] at d0 d1 d2 d3 d4; obtain ⟨hT6, hR6⟩ := res_set hr5 (.string ⟨#[]⟩) (.bool false) (.int .i64 0) (.int .i64 0) (.slice none 0 0); have HK := Lib.hid (HEnd.out _ _ _ hk5 hT6); have HR6 := Lib.hid hR6; clear hr5 hT6 hR6 hk5)
  have p0 := HR6.out.cell 0
  have p1 := HR6.out.cell 1
  have p2 := HR6.out.cell 2
  have p3 := HR6.out.cell 3
  have p4 := HR6.out.cell 4
  simp only [List.getElem?_toArray, List.getElem?_cons_zero, List.getElem?_cons_succ] at p0 p1 p2 p3 p4
  exact bodyPost_ret (v := .tuple #[.agg #[.string ⟨#[]⟩, .bool false, .int .i64 0, .int .i64 0, .slice none 0 0], .int .i64 (putE (nmdB d.name && rdB d.text) fs)]) (by simp [results, Tryz.results10, go_sem, p0, p1, p2, p3, p4]) rfl ⟨⟨.slice none 0 0, rfl, RowAt.nil⟩, HK.out⟩
set_option maxRecDepth 100000 in
set_option maxHeartbeats 1000000 in
theorem nTold1 (d : Dd) (A : Option Addr) (n c : Nat) (A2 : Option Addr) (n2 c2 : Nat) (K0 : Nat → Prop) (hv : LnsAt K0 w (.slice A n c) d.lines) (hv2 : SsAt K0 w (.slice A2 n2 c2) d.args) (hK0 : ∀ k, K0 k → k < w.heap.size) (hz1 : d.name.size ≤ maxLen) (hz3 : d.lines.length ≤ 10000000000000) (hz4 : d.args.length * 16 ≤ 140737488355328) (h : RKt U K w x fs) (hw : d.what = 1) :
    Calls Tryz.prog 10 #[.pointer (some ⟨x, 0, none⟩), ddV d A n c A2 n2 c2] w fun e w' => LnOut w w' e zLn (putE (nmdB d.name && lsOk d.lines) fs) ∧ KTo U K w w' x (putF (nmdB d.name && lsOk d.lines) fs (macFr d.name d.lines d.args)) := by
  obtain ⟨w0, hw0⟩ : ∃ w0, w0 = (w.alloc (.cells #[.int .i64 d.what, .string d.name, .string d.text, .slice A n c, .slice A2 n2 c2, .int .i64 d.n] 38)).alloc (.cells #[.string ⟨#[]⟩, .bool false, .int .i64 0, .int .i64 0, .slice none 0 0] 31) := ⟨_, rfl⟩
  have hB1 : Below w.heap.size w (w.alloc (.cells #[.int .i64 d.what, .string d.name, .string d.text, .slice A n c, .slice A2 n2 c2, .int .i64 d.n] 38)) := (Below.refl _ _).alloc (Nat.le_refl _) _
  have h2 : Two w w0 := by
    rw [hw0]
    exact ⟨hB1.alloc hB1.size _, by simp, blk_at2 (by simp)⟩
  have hdb : Blk w0 w.heap.size 38 #[.int .i64 d.what, .string d.name, .string d.text, .slice A n c, .slice A2 n2 c2, .int .i64 d.n] := by rw [hw0]; exact (Blk.new _ _ _).alloc _
  have c0 := hdb.cell 0
  have c1 := hdb.cell 1
  have c2' := hdb.cell 2
  have c3 := hdb.cell 3
  have c4 := hdb.cell 4
  have c5 := hdb.cell 5
  simp only [List.getElem?_toArray, List.getElem?_cons_zero, List.getElem?_cons_succ] at c0 c1 c2' c3 c4 c5
  have h0 := h.below h2.below
  have HEnd := Lib.hid (fun (w5 w6 : World) (fs' : List Fr) (hk : KTo U K w0 w5 x fs') (hT : Turn (· = w.heap.size + 1) w5 w6) => h2.end_ h hk hT)
  have HBlk := Lib.hid (fun (w5 : World) (fs' : List Fr) (hk : KTo U K w0 w5 x fs') => h2.blk h hk)
  have h2s := h2.size
  have HC := Lib.hid (nMacro d.name K0 (.slice A n c) (.slice A2 n2 c2) d.lines d.args hz1 hz3 hz4 (hv.stay (Kept.of_below h2.below hK0) (fun _ h => h)) (hv2.stay (Kept.of_below h2.below hK0) (fun _ h => h)) (fun k hk => Nat.lt_of_lt_of_le (hK0 k hk) h2.below.size) h0)
  rw [hw] at c0 hw0
  clear hdb h0 h2 hB1 h
  clear hv hK0 hv2
  unfold ddV
  rw [hw]
  subst hw0
  go_enter Tryz.func10, Tryz.ntmps10
  go_wp2_with (go_at_call 25; refine HC.out.mono ?_; rintro e w5 ⟨rfl, hk5⟩; have hr5 := HBlk.out _ _ hk5; have hf0 := hr5.frozen 0; have hf1 := hr5.frozen 1; have hf2 := hr5.frozen 2; have hf3 := hr5.frozen 3; have hf4 := hr5.frozen 4; have d0 := hr5.cell 0; have d1 := hr5.cell 1; have d2 := hr5.cell 2; have d3 := hr5.cell 3; have d4 := hr5.cell 4; simp only [List.getElem?_toArray, List.getElem?_cons_zero, List.getElem?_cons_succ] at d0 d1 d2 d3 d4; obtain ⟨hT6, hR6⟩ := res_set hr5 (.string ⟨#[]⟩) (.bool false) (.int .i64 0) (.int .i64 0) (.slice none 0 0); have HK := Lib.hid (HEnd.out _ _ _ hk5 hT6); have HR6 := Lib.hid hR6; clear hr5 hT6 hR6 hk5)
  have p0 := HR6.out.cell 0
  have p1 := HR6.out.cell 1
  have p2 := HR6.out.cell 2
  have p3 := HR6.out.cell 3
  have p4 := HR6.out.cell 4
  simp only [List.getElem?_toArray, List.getElem?_cons_zero, List.getElem?_cons_succ] at p0 p1 p2 p3 p4
  exact bodyPost_ret (v := .tuple #[.agg #[.string ⟨#[]⟩, .bool false, .int .i64 0, .int .i64 0, .slice none 0 0], .int .i64 (putE (nmdB d.name && lsOk d.lines) fs)]) (by simp [results, Tryz.results10, go_sem, p0, p1, p2, p3, p4]) rfl ⟨⟨.slice none 0 0, rfl, RowAt.nil⟩, HK.out⟩
set_option maxRecDepth 100000 in
set_option maxHeartbeats 1000000 in
theorem nTold2 (d : Dd) (A : Option Addr) (n c : Nat) (A2 : Option Addr) (n2 c2 : Nat) (K0 : Nat → Prop) (hv : LnsAt K0 w (.slice A n c) d.lines) (hK0 : ∀ k, K0 k → k < w.heap.size) (hz3 : d.lines.length ≤ 10000000000000) (h : RKt U K w x fs) (hw : d.what = 2) :
    Calls Tryz.prog 10 #[.pointer (some ⟨x, 0, none⟩), ddV d A n c A2 n2 c2] w fun e w' => LnOut w w' e zLn (putE (lsOk d.lines) fs) ∧ KTo U K w w' x (putF (lsOk d.lines) fs (waiFr d.lines)) := by
  obtain ⟨w0, hw0⟩ : ∃ w0, w0 = (w.alloc (.cells #[.int .i64 d.what, .string d.name, .string d.text, .slice A n c, .slice A2 n2 c2, .int .i64 d.n] 38)).alloc (.cells #[.string ⟨#[]⟩, .bool false, .int .i64 0, .int .i64 0, .slice none 0 0] 31) := ⟨_, rfl⟩
  have hB1 : Below w.heap.size w (w.alloc (.cells #[.int .i64 d.what, .string d.name, .string d.text, .slice A n c, .slice A2 n2 c2, .int .i64 d.n] 38)) := (Below.refl _ _).alloc (Nat.le_refl _) _
  have h2 : Two w w0 := by
    rw [hw0]
    exact ⟨hB1.alloc hB1.size _, by simp, blk_at2 (by simp)⟩
  have hdb : Blk w0 w.heap.size 38 #[.int .i64 d.what, .string d.name, .string d.text, .slice A n c, .slice A2 n2 c2, .int .i64 d.n] := by rw [hw0]; exact (Blk.new _ _ _).alloc _
  have c0 := hdb.cell 0
  have c1 := hdb.cell 1
  have c2' := hdb.cell 2
  have c3 := hdb.cell 3
  have c4 := hdb.cell 4
  have c5 := hdb.cell 5
  simp only [List.getElem?_toArray, List.getElem?_cons_zero, List.getElem?_cons_succ] at c0 c1 c2' c3 c4 c5
  have h0 := h.below h2.below
  have HEnd := Lib.hid (fun (w5 w6 : World) (fs' : List Fr) (hk : KTo U K w0 w5 x fs') (hT : Turn (· = w.heap.size + 1) w5 w6) => h2.end_ h hk hT)
  have HBlk := Lib.hid (fun (w5 : World) (fs' : List Fr) (hk : KTo U K w0 w5 x fs') => h2.blk h hk)
  have h2s := h2.size
  have HC := Lib.hid (nWait K0 (.slice A n c) d.lines hz3 (hv.stay (Kept.of_below h2.below hK0) (fun _ h => h)) (fun k hk => Nat.lt_of_lt_of_le (hK0 k hk) h2.below.size) h0)
  rw [hw] at c0 hw0
  clear hdb h0 h2 hB1 h
  clear hv hK0
  unfold ddV
  rw [hw]
  subst hw0
  go_enter Tryz.func10, Tryz.ntmps10
  go_wp2_with (go_at_call 26; refine HC.out.mono ?_; rintro e w5 ⟨rfl, hk5⟩; have hr5 := HBlk.out _ _ hk5; have hf0 := hr5.frozen 0; have hf1 := hr5.frozen 1; have hf2 := hr5.frozen 2; have hf3 := hr5.frozen 3; have hf4 := hr5.frozen 4; have d0 := hr5.cell 0; have d1 := hr5.cell 1; have d2 := hr5.cell 2; have d3 := hr5.cell 3; have d4 := hr5.cell 4; simp only [List.getElem?_toArray, List.getElem?_cons_zero, List.getElem?_cons_succ] at d0 d1 d2 d3 d4; obtain ⟨hT6, hR6⟩ := res_set hr5 (.string ⟨#[]⟩) (.bool false) (.int .i64 0) (.int .i64 0) (.slice none 0 0); have HK := Lib.hid (HEnd.out _ _ _ hk5 hT6); have HR6 := Lib.hid hR6; clear hr5 hT6 hR6 hk5)
  have p0 := HR6.out.cell 0
  have p1 := HR6.out.cell 1
  have p2 := HR6.out.cell 2
  have p3 := HR6.out.cell 3
  have p4 := HR6.out.cell 4
  simp only [List.getElem?_toArray, List.getElem?_cons_zero, List.getElem?_cons_succ] at p0 p1 p2 p3 p4
  exact bodyPost_ret (v := .tuple #[.agg #[.string ⟨#[]⟩, .bool false, .int .i64 0, .int .i64 0, .slice none 0 0], .int .i64 (putE (lsOk d.lines) fs)]) (by simp [results, Tryz.results10, go_sem, p0, p1, p2, p3, p4]) rfl ⟨⟨.slice none 0 0, rfl, RowAt.nil⟩, HK.out⟩
set_option maxRecDepth 100000 in
set_option maxHeartbeats 1000000 in
theorem nTold3 (d : Dd) (A : Option Addr) (n c : Nat) (A2 : Option Addr) (n2 c2 : Nat) (h : RKt U K w x fs) (hw : d.what = 3) :
    Calls Tryz.prog 10 #[.pointer (some ⟨x, 0, none⟩), ddV d A n c A2 n2 c2] w fun e w' => LnOut w w' e (nxL fs) (nxE fs) ∧ KTo U K w w' x (nxF fs) := by
  obtain ⟨w0, hw0⟩ : ∃ w0, w0 = (w.alloc (.cells #[.int .i64 d.what, .string d.name, .string d.text, .slice A n c, .slice A2 n2 c2, .int .i64 d.n] 38)).alloc (.cells #[.string ⟨#[]⟩, .bool false, .int .i64 0, .int .i64 0, .slice none 0 0] 31) := ⟨_, rfl⟩
  have hB1 : Below w.heap.size w (w.alloc (.cells #[.int .i64 d.what, .string d.name, .string d.text, .slice A n c, .slice A2 n2 c2, .int .i64 d.n] 38)) := (Below.refl _ _).alloc (Nat.le_refl _) _
  have h2 : Two w w0 := by
    rw [hw0]
    exact ⟨hB1.alloc hB1.size _, by simp, blk_at2 (by simp)⟩
  have hdb : Blk w0 w.heap.size 38 #[.int .i64 d.what, .string d.name, .string d.text, .slice A n c, .slice A2 n2 c2, .int .i64 d.n] := by rw [hw0]; exact (Blk.new _ _ _).alloc _
  have c0 := hdb.cell 0
  have c1 := hdb.cell 1
  have c2' := hdb.cell 2
  have c3 := hdb.cell 3
  have c4 := hdb.cell 4
  have c5 := hdb.cell 5
  simp only [List.getElem?_toArray, List.getElem?_cons_zero, List.getElem?_cons_succ] at c0 c1 c2' c3 c4 c5
  have h0 := h.below h2.below
  have HEnd := Lib.hid (fun (w5 w6 : World) (fs' : List Fr) (hk : KTo U K w0 w5 x fs') (hT : Turn (· = w.heap.size + 1) w5 w6) => h2.end_ h hk hT)
  have HBlk := Lib.hid (fun (w5 : World) (fs' : List Fr) (hk : KTo U K w0 w5 x fs') => h2.blk h hk)
  have h2s := h2.size
  have HC := Lib.hid (nNext h0)
  rw [hw] at c0 hw0
  clear hdb h0 h2 hB1 h
  unfold ddV
  rw [hw]
  subst hw0
  go_enter Tryz.func10, Tryz.ntmps10
  go_wp2_with (go_at_call 27; refine HC.out.mono ?_; rintro e w5 ⟨⟨v5, rfl, hbx5⟩, hk5⟩; obtain ⟨A5, n5, c5', rfl⟩ : ∃ A n c, v5 = .slice A n c := (by obtain ⟨A, c, e, _⟩ := hbx5; exact ⟨A, _, c, e⟩); have hr5 := HBlk.out _ _ hk5; have hf0 := hr5.frozen 0; have hf1 := hr5.frozen 1; have hf2 := hr5.frozen 2; have hf3 := hr5.frozen 3; have hf4 := hr5.frozen 4; have d0 := hr5.cell 0; have d1 := hr5.cell 1; have d2 := hr5.cell 2; have d3 := hr5.cell 3; have d4 := hr5.cell 4; simp only [List.getElem?_toArray, List.getElem?_cons_zero, List.getElem?_cons_succ] at d0 d1 d2 d3 d4; obtain ⟨hT6, hR6⟩ := res_set hr5 (.string (nxL fs).text) (.bool (nxL fs).made) (.int .i64 (nxL fs).up) (.int .i64 (nxL fs).down) (.slice A5 n5 c5'); have HK := Lib.hid (HEnd.out _ _ _ hk5 hT6); have HT6 := Lib.hid hT6; have HR6 := Lib.hid hR6; have HBx := Lib.hid hbx5; clear hr5 hT6 hR6 hbx5 hk5)
  have p0 := HR6.out.cell 0
  have p1 := HR6.out.cell 1
  have p2 := HR6.out.cell 2
  have p3 := HR6.out.cell 3
  have p4 := HR6.out.cell 4
  simp only [List.getElem?_toArray, List.getElem?_cons_zero, List.getElem?_cons_succ] at p0 p1 p2 p3 p4
  refine bodyPost_ret (v := .tuple #[.agg #[.string (nxL fs).text, .bool (nxL fs).made, .int .i64 (nxL fs).up, .int .i64 (nxL fs).down, .slice A5 n5 c5'], .int .i64 (nxE fs)]) (by simp [results, Tryz.results10, go_sem, p0, p1, p2, p3, p4]) rfl ⟨⟨.slice A5 n5 c5', rfl, ?_⟩, HK.out⟩
  exact HBx.out.stay (Kept.of_turn HT6.out (fun i hi e => by have := hi.1; omega)) (fun i hi => ⟨by have := hi.1; omega, Nat.lt_of_lt_of_le hi.2 HT6.out.size⟩)
set_option maxRecDepth 100000 in
set_option maxHeartbeats 1000000 in
theorem nTold4 (d : Dd) (A : Option Addr) (n c : Nat) (A2 : Option Addr) (n2 c2 : Nat) (h : RKt U K w x fs) (hw : d.what = 4) :
    Calls Tryz.prog 10 #[.pointer (some ⟨x, 0, none⟩), ddV d A n c A2 n2 c2] w fun e w' => LnOut w w' e (nxL fs) (nxE fs) ∧ KTo U K w w' x fs := by
  obtain ⟨w0, hw0⟩ : ∃ w0, w0 = (w.alloc (.cells #[.int .i64 d.what, .string d.name, .string d.text, .slice A n c, .slice A2 n2 c2, .int .i64 d.n] 38)).alloc (.cells #[.string ⟨#[]⟩, .bool false, .int .i64 0, .int .i64 0, .slice none 0 0] 31) := ⟨_, rfl⟩
  have hB1 : Below w.heap.size w (w.alloc (.cells #[.int .i64 d.what, .string d.name, .string d.text, .slice A n c, .slice A2 n2 c2, .int .i64 d.n] 38)) := (Below.refl _ _).alloc (Nat.le_refl _) _
  have h2 : Two w w0 := by
    rw [hw0]
    exact ⟨hB1.alloc hB1.size _, by simp, blk_at2 (by simp)⟩
  have hdb : Blk w0 w.heap.size 38 #[.int .i64 d.what, .string d.name, .string d.text, .slice A n c, .slice A2 n2 c2, .int .i64 d.n] := by rw [hw0]; exact (Blk.new _ _ _).alloc _
  have c0 := hdb.cell 0
  have c1 := hdb.cell 1
  have c2' := hdb.cell 2
  have c3 := hdb.cell 3
  have c4 := hdb.cell 4
  have c5 := hdb.cell 5
  simp only [List.getElem?_toArray, List.getElem?_cons_zero, List.getElem?_cons_succ] at c0 c1 c2' c3 c4 c5
  have h0 := h.below h2.below
  have HEnd := Lib.hid (fun (w5 w6 : World) (fs' : List Fr) (hk : KTo U K w0 w5 x fs') (hT : Turn (· = w.heap.size + 1) w5 w6) => h2.end_ h hk hT)
  have HBlk := Lib.hid (fun (w5 : World) (fs' : List Fr) (hk : KTo U K w0 w5 x fs') => h2.blk h hk)
  have h2s := h2.size
  have HC := Lib.hid (nPeek h0)
  have HSm := Lib.hid (fun w5 hb => KTo.same (w' := w5) h0 hb)
  rw [hw] at c0 hw0
  clear hdb h0 h2 hB1 h
  unfold ddV
  rw [hw]
  subst hw0
  go_enter Tryz.func10, Tryz.ntmps10
  go_wp2_with (go_at_call 28; refine HC.out.mono ?_; rintro e w5 ⟨⟨v5, rfl, hbx5⟩, hb5⟩; have hk5 := HSm.out _ hb5; obtain ⟨A5, n5, c5', rfl⟩ : ∃ A n c, v5 = .slice A n c := (by obtain ⟨A, c, e, _⟩ := hbx5; exact ⟨A, _, c, e⟩); have hr5 := HBlk.out _ _ hk5; have hf0 := hr5.frozen 0; have hf1 := hr5.frozen 1; have hf2 := hr5.frozen 2; have hf3 := hr5.frozen 3; have hf4 := hr5.frozen 4; have d0 := hr5.cell 0; have d1 := hr5.cell 1; have d2 := hr5.cell 2; have d3 := hr5.cell 3; have d4 := hr5.cell 4; simp only [List.getElem?_toArray, List.getElem?_cons_zero, List.getElem?_cons_succ] at d0 d1 d2 d3 d4; obtain ⟨hT6, hR6⟩ := res_set hr5 (.string (nxL fs).text) (.bool (nxL fs).made) (.int .i64 (nxL fs).up) (.int .i64 (nxL fs).down) (.slice A5 n5 c5'); have HK := Lib.hid (HEnd.out _ _ _ hk5 hT6); have HT6 := Lib.hid hT6; have HR6 := Lib.hid hR6; have HBx := Lib.hid hbx5; clear hr5 hT6 hR6 hbx5 hk5)
  have p0 := HR6.out.cell 0
  have p1 := HR6.out.cell 1
  have p2 := HR6.out.cell 2
  have p3 := HR6.out.cell 3
  have p4 := HR6.out.cell 4
  simp only [List.getElem?_toArray, List.getElem?_cons_zero, List.getElem?_cons_succ] at p0 p1 p2 p3 p4
  refine bodyPost_ret (v := .tuple #[.agg #[.string (nxL fs).text, .bool (nxL fs).made, .int .i64 (nxL fs).up, .int .i64 (nxL fs).down, .slice A5 n5 c5'], .int .i64 (nxE fs)]) (by simp [results, Tryz.results10, go_sem, p0, p1, p2, p3, p4]) rfl ⟨⟨.slice A5 n5 c5', rfl, ?_⟩, HK.out⟩
  exact HBx.out.stay (Kept.of_turn HT6.out (fun i hi e => by have := hi.1; omega)) (fun i hi => ⟨by have := hi.1; omega, Nat.lt_of_lt_of_le hi.2 HT6.out.size⟩)
set_option maxRecDepth 100000 in
set_option maxHeartbeats 1000000 in
theorem nTold5 (d : Dd) (A : Option Addr) (n c : Nat) (A2 : Option Addr) (n2 c2 : Nat) (h : RKt U K w x fs) (hw : d.what = 5) :
    Calls Tryz.prog 10 #[.pointer (some ⟨x, 0, none⟩), ddV d A n c A2 n2 c2] w fun e w' => LnOut w w' e zLn (rtE fs) ∧ KTo U K w w' x (rtF (oddB d.n) fs) := by
  obtain ⟨w0, hw0⟩ : ∃ w0, w0 = (w.alloc (.cells #[.int .i64 d.what, .string d.name, .string d.text, .slice A n c, .slice A2 n2 c2, .int .i64 d.n] 38)).alloc (.cells #[.string ⟨#[]⟩, .bool false, .int .i64 0, .int .i64 0, .slice none 0 0] 31) := ⟨_, rfl⟩
  have hB1 : Below w.heap.size w (w.alloc (.cells #[.int .i64 d.what, .string d.name, .string d.text, .slice A n c, .slice A2 n2 c2, .int .i64 d.n] 38)) := (Below.refl _ _).alloc (Nat.le_refl _) _
  have h2 : Two w w0 := by
    rw [hw0]
    exact ⟨hB1.alloc hB1.size _, by simp, blk_at2 (by simp)⟩
  have hdb : Blk w0 w.heap.size 38 #[.int .i64 d.what, .string d.name, .string d.text, .slice A n c, .slice A2 n2 c2, .int .i64 d.n] := by rw [hw0]; exact (Blk.new _ _ _).alloc _
  have c0 := hdb.cell 0
  have c1 := hdb.cell 1
  have c2' := hdb.cell 2
  have c3 := hdb.cell 3
  have c4 := hdb.cell 4
  have c5 := hdb.cell 5
  simp only [List.getElem?_toArray, List.getElem?_cons_zero, List.getElem?_cons_succ] at c0 c1 c2' c3 c4 c5
  have h0 := h.below h2.below
  have HEnd := Lib.hid (fun (w5 w6 : World) (fs' : List Fr) (hk : KTo U K w0 w5 x fs') (hT : Turn (· = w.heap.size + 1) w5 w6) => h2.end_ h hk hT)
  have HBlk := Lib.hid (fun (w5 : World) (fs' : List Fr) (hk : KTo U K w0 w5 x fs') => h2.blk h hk)
  have h2s := h2.size
  have HC := Lib.hid (nReturn (oddB d.n) h0)
  rw [hw] at c0 hw0
  clear hdb h0 h2 hB1 h
  have hod : (d.n.tmod 2 != 0) = oddB d.n := rfl
  unfold ddV
  rw [hw]
  subst hw0
  go_enter Tryz.func10, Tryz.ntmps10
  go_wp2_with (go_at_call 29; refine HC.out.mono ?_; rintro e w5 ⟨rfl, hk5⟩; have hr5 := HBlk.out _ _ hk5; have hf0 := hr5.frozen 0; have hf1 := hr5.frozen 1; have hf2 := hr5.frozen 2; have hf3 := hr5.frozen 3; have hf4 := hr5.frozen 4; have d0 := hr5.cell 0; have d1 := hr5.cell 1; have d2 := hr5.cell 2; have d3 := hr5.cell 3; have d4 := hr5.cell 4; simp only [List.getElem?_toArray, List.getElem?_cons_zero, List.getElem?_cons_succ] at d0 d1 d2 d3 d4; obtain ⟨hT6, hR6⟩ := res_set hr5 (.string ⟨#[]⟩) (.bool false) (.int .i64 0) (.int .i64 0) (.slice none 0 0); have HK := Lib.hid (HEnd.out _ _ _ hk5 hT6); have HR6 := Lib.hid hR6; clear hr5 hT6 hR6 hk5)
  have p0 := HR6.out.cell 0
  have p1 := HR6.out.cell 1
  have p2 := HR6.out.cell 2
  have p3 := HR6.out.cell 3
  have p4 := HR6.out.cell 4
  simp only [List.getElem?_toArray, List.getElem?_cons_zero, List.getElem?_cons_succ] at p0 p1 p2 p3 p4
  exact bodyPost_ret (v := .tuple #[.agg #[.string ⟨#[]⟩, .bool false, .int .i64 0, .int .i64 0, .slice none 0 0], .int .i64 (rtE fs)]) (by simp [results, Tryz.results10, go_sem, p0, p1, p2, p3, p4]) rfl ⟨⟨.slice none 0 0, rfl, RowAt.nil⟩, HK.out⟩
set_option maxRecDepth 100000 in
set_option maxHeartbeats 1000000 in
theorem nTold6 (d : Dd) (A : Option Addr) (n c : Nat) (A2 : Option Addr) (n2 c2 : Nat) (hz1 : d.name.size ≤ maxLen) (hz2 : d.text.size ≤ 1000000) (h : RKt U K w x fs) (hw : d.what = 6) :
    Calls Tryz.prog 10 #[.pointer (some ⟨x, 0, none⟩), ddV d A n c A2 n2 c2] w fun e w' => LnOut w w' e zLn (inE (nmdB d.name && rdB d.text) fs) ∧ KTo U K w w' x (inF (nmdB d.name && rdB d.text) fs (filFr d.name d.text)) := by
  obtain ⟨w0, hw0⟩ : ∃ w0, w0 = (w.alloc (.cells #[.int .i64 d.what, .string d.name, .string d.text, .slice A n c, .slice A2 n2 c2, .int .i64 d.n] 38)).alloc (.cells #[.string ⟨#[]⟩, .bool false, .int .i64 0, .int .i64 0, .slice none 0 0] 31) := ⟨_, rfl⟩
  have hB1 : Below w.heap.size w (w.alloc (.cells #[.int .i64 d.what, .string d.name, .string d.text, .slice A n c, .slice A2 n2 c2, .int .i64 d.n] 38)) := (Below.refl _ _).alloc (Nat.le_refl _) _
  have h2 : Two w w0 := by
    rw [hw0]
    exact ⟨hB1.alloc hB1.size _, by simp, blk_at2 (by simp)⟩
  have hdb : Blk w0 w.heap.size 38 #[.int .i64 d.what, .string d.name, .string d.text, .slice A n c, .slice A2 n2 c2, .int .i64 d.n] := by rw [hw0]; exact (Blk.new _ _ _).alloc _
  have c0 := hdb.cell 0
  have c1 := hdb.cell 1
  have c2' := hdb.cell 2
  have c3 := hdb.cell 3
  have c4 := hdb.cell 4
  have c5 := hdb.cell 5
  simp only [List.getElem?_toArray, List.getElem?_cons_zero, List.getElem?_cons_succ] at c0 c1 c2' c3 c4 c5
  have h0 := h.below h2.below
  have HEnd := Lib.hid (fun (w5 w6 : World) (fs' : List Fr) (hk : KTo U K w0 w5 x fs') (hT : Turn (· = w.heap.size + 1) w5 w6) => h2.end_ h hk hT)
  have HBlk := Lib.hid (fun (w5 : World) (fs' : List Fr) (hk : KTo U K w0 w5 x fs') => h2.blk h hk)
  have h2s := h2.size
  have HC := Lib.hid (nInstead d.name d.text hz1 hz2 h0)
  rw [hw] at c0 hw0
  clear hdb h0 h2 hB1 h
  unfold ddV
  rw [hw]
  subst hw0
  go_enter Tryz.func10, Tryz.ntmps10
  go_wp2_with (go_at_call 30; refine HC.out.mono ?_; rintro e w5 ⟨rfl, hk5⟩; have hr5 := HBlk.out _ _ hk5; have hf0 := hr5.frozen 0; have hf1 := hr5.frozen 1; have hf2 := hr5.frozen 2; have hf3 := hr5.frozen 3; have hf4 := hr5.frozen 4; have d0 := hr5.cell 0; have d1 := hr5.cell 1; have d2 := hr5.cell 2; have d3 := hr5.cell 3; have d4 := hr5.cell 4; simp only [List.getElem?_toArray, List.getElem?_cons_zero, List.getElem?_cons_succ] at d0 d1 d2 d3 d4; obtain ⟨hT6, hR6⟩ := res_set hr5 (.string ⟨#[]⟩) (.bool false) (.int .i64 0) (.int .i64 0) (.slice none 0 0); have HK := Lib.hid (HEnd.out _ _ _ hk5 hT6); have HR6 := Lib.hid hR6; clear hr5 hT6 hR6 hk5)
  have p0 := HR6.out.cell 0
  have p1 := HR6.out.cell 1
  have p2 := HR6.out.cell 2
  have p3 := HR6.out.cell 3
  have p4 := HR6.out.cell 4
  simp only [List.getElem?_toArray, List.getElem?_cons_zero, List.getElem?_cons_succ] at p0 p1 p2 p3 p4
  exact bodyPost_ret (v := .tuple #[.agg #[.string ⟨#[]⟩, .bool false, .int .i64 0, .int .i64 0, .slice none 0 0], .int .i64 (inE (nmdB d.name && rdB d.text) fs)]) (by simp [results, Tryz.results10, go_sem, p0, p1, p2, p3, p4]) rfl ⟨⟨.slice none 0 0, rfl, RowAt.nil⟩, HK.out⟩
set_option maxRecDepth 100000 in
set_option maxHeartbeats 1000000 in
theorem nTold7 (d : Dd) (A : Option Addr) (n c : Nat) (A2 : Option Addr) (n2 c2 : Nat) (h : RKt U K w x fs) (hw : d.what = 7) :
    Calls Tryz.prog 10 #[.pointer (some ⟨x, 0, none⟩), ddV d A n c A2 n2 c2] w fun e w' => LnOut w w' e zLn (shE fs d.n) ∧ KTo U K w w' x (shF fs d.n) := by
  obtain ⟨w0, hw0⟩ : ∃ w0, w0 = (w.alloc (.cells #[.int .i64 d.what, .string d.name, .string d.text, .slice A n c, .slice A2 n2 c2, .int .i64 d.n] 38)).alloc (.cells #[.string ⟨#[]⟩, .bool false, .int .i64 0, .int .i64 0, .slice none 0 0] 31) := ⟨_, rfl⟩
  have hB1 : Below w.heap.size w (w.alloc (.cells #[.int .i64 d.what, .string d.name, .string d.text, .slice A n c, .slice A2 n2 c2, .int .i64 d.n] 38)) := (Below.refl _ _).alloc (Nat.le_refl _) _
  have h2 : Two w w0 := by
    rw [hw0]
    exact ⟨hB1.alloc hB1.size _, by simp, blk_at2 (by simp)⟩
  have hdb : Blk w0 w.heap.size 38 #[.int .i64 d.what, .string d.name, .string d.text, .slice A n c, .slice A2 n2 c2, .int .i64 d.n] := by rw [hw0]; exact (Blk.new _ _ _).alloc _
  have c0 := hdb.cell 0
  have c1 := hdb.cell 1
  have c2' := hdb.cell 2
  have c3 := hdb.cell 3
  have c4 := hdb.cell 4
  have c5 := hdb.cell 5
  simp only [List.getElem?_toArray, List.getElem?_cons_zero, List.getElem?_cons_succ] at c0 c1 c2' c3 c4 c5
  have h0 := h.below h2.below
  have HEnd := Lib.hid (fun (w5 w6 : World) (fs' : List Fr) (hk : KTo U K w0 w5 x fs') (hT : Turn (· = w.heap.size + 1) w5 w6) => h2.end_ h hk hT)
  have HBlk := Lib.hid (fun (w5 : World) (fs' : List Fr) (hk : KTo U K w0 w5 x fs') => h2.blk h hk)
  have h2s := h2.size
  have HC := Lib.hid (nShift d.n h0)
  rw [hw] at c0 hw0
  clear hdb h0 h2 hB1 h
  unfold ddV
  rw [hw]
  subst hw0
  go_enter Tryz.func10, Tryz.ntmps10
  go_wp2_with (go_at_call 31; refine HC.out.mono ?_; rintro e w5 ⟨rfl, hk5⟩; have hr5 := HBlk.out _ _ hk5; have hf0 := hr5.frozen 0; have hf1 := hr5.frozen 1; have hf2 := hr5.frozen 2; have hf3 := hr5.frozen 3; have hf4 := hr5.frozen 4; have d0 := hr5.cell 0; have d1 := hr5.cell 1; have d2 := hr5.cell 2; have d3 := hr5.cell 3; have d4 := hr5.cell 4; simp only [List.getElem?_toArray, List.getElem?_cons_zero, List.getElem?_cons_succ] at d0 d1 d2 d3 d4; obtain ⟨hT6, hR6⟩ := res_set hr5 (.string ⟨#[]⟩) (.bool false) (.int .i64 0) (.int .i64 0) (.slice none 0 0); have HK := Lib.hid (HEnd.out _ _ _ hk5 hT6); have HR6 := Lib.hid hR6; clear hr5 hT6 hR6 hk5)
  have p0 := HR6.out.cell 0
  have p1 := HR6.out.cell 1
  have p2 := HR6.out.cell 2
  have p3 := HR6.out.cell 3
  have p4 := HR6.out.cell 4
  simp only [List.getElem?_toArray, List.getElem?_cons_zero, List.getElem?_cons_succ] at p0 p1 p2 p3 p4
  exact bodyPost_ret (v := .tuple #[.agg #[.string ⟨#[]⟩, .bool false, .int .i64 0, .int .i64 0, .slice none 0 0], .int .i64 (shE fs d.n)]) (by simp [results, Tryz.results10, go_sem, p0, p1, p2, p3, p4]) rfl ⟨⟨.slice none 0 0, rfl, RowAt.nil⟩, HK.out⟩
set_option maxRecDepth 100000 in
set_option maxHeartbeats 4000000 in
theorem nTold8 (d : Dd) (A : Option Addr) (n c : Nat) (A2 : Option Addr) (n2 c2 : Nat) (h : RKt U K w x fs) (e0 : d.what ≠ 0) (e1 : d.what ≠ 1) (e2 : d.what ≠ 2) (e3 : d.what ≠ 3) (e4 : d.what ≠ 4) (e5 : d.what ≠ 5) (e6 : d.what ≠ 6) (e7 : d.what ≠ 7) :
    Calls Tryz.prog 10 #[.pointer (some ⟨x, 0, none⟩), ddV d A n c A2 n2 c2] w fun e w' => LnOut w w' e zLn (0) ∧ KTo U K w w' x fs := by
  obtain ⟨w0, hw0⟩ : ∃ w0, w0 = (w.alloc (.cells #[.int .i64 d.what, .string d.name, .string d.text, .slice A n c, .slice A2 n2 c2, .int .i64 d.n] 38)).alloc (.cells #[.string ⟨#[]⟩, .bool false, .int .i64 0, .int .i64 0, .slice none 0 0] 31) := ⟨_, rfl⟩
  have hB1 : Below w.heap.size w (w.alloc (.cells #[.int .i64 d.what, .string d.name, .string d.text, .slice A n c, .slice A2 n2 c2, .int .i64 d.n] 38)) := (Below.refl _ _).alloc (Nat.le_refl _) _
  have h2 : Two w w0 := by
    rw [hw0]
    exact ⟨hB1.alloc hB1.size _, by simp, blk_at2 (by simp)⟩
  have hdb : Blk w0 w.heap.size 38 #[.int .i64 d.what, .string d.name, .string d.text, .slice A n c, .slice A2 n2 c2, .int .i64 d.n] := by rw [hw0]; exact (Blk.new _ _ _).alloc _
  have c0 := hdb.cell 0
  have c1 := hdb.cell 1
  have c2' := hdb.cell 2
  have c3 := hdb.cell 3
  have c4 := hdb.cell 4
  have c5 := hdb.cell 5
  simp only [List.getElem?_toArray, List.getElem?_cons_zero, List.getElem?_cons_succ] at c0 c1 c2' c3 c4 c5
  have h0 := h.below h2.below
  have HEnd := Lib.hid (fun (w5 w6 : World) (fs' : List Fr) (hk : KTo U K w0 w5 x fs') (hT : Turn (· = w.heap.size + 1) w5 w6) => h2.end_ h hk hT)
  have HBlk := Lib.hid (fun (w5 : World) (fs' : List Fr) (hk : KTo U K w0 w5 x fs') => h2.blk h hk)
  have h2s := h2.size
  have he0 : (d.what == 0) = false := by simp [e0]
  have he1 : (d.what == 1) = false := by simp [e1]
  have he2 : (d.what == 2) = false := by simp [e2]
  have he3 : (d.what == 3) = false := by simp [e3]
  have he4 : (d.what == 4) = false := by simp [e4]
  have he5 : (d.what == 5) = false := by simp [e5]
  have he6 : (d.what == 6) = false := by simp [e6]
  have he7 : (d.what == 7) = false := by simp [e7]
  clear e0 e1 e2 e3 e4 e5 e6 e7
  have hk0 := KTo.same h0 (Below.refl _ _)
  have HR6 := Lib.hid (HBlk.out _ _ hk0)
  have HK := Lib.hid (HEnd.out _ _ _ hk0 (Turn.refl _ _))
  clear hdb h0 h2 hB1 hk0 h h2s c1 c2' c3 c4 c5 HEnd HBlk
  unfold ddV
  generalize d.what = wh at *
  subst hw0
  go_enter Tryz.func10, Tryz.ntmps10
  go_wp2_with fail
  have p0 := HR6.out.cell 0
  have p1 := HR6.out.cell 1
  have p2 := HR6.out.cell 2
  have p3 := HR6.out.cell 3
  have p4 := HR6.out.cell 4
  simp only [List.getElem?_toArray, List.getElem?_cons_zero, List.getElem?_cons_succ] at p0 p1 p2 p3 p4
  exact bodyPost_ret (v := .tuple #[.agg #[.string ⟨#[]⟩, .bool false, .int .i64 0, .int .i64 0, .slice none 0 0], .int .i64 (0)]) (by simp [results, Tryz.results10, go_sem, p0, p1, p2, p3, p4]) rfl ⟨⟨.slice none 0 0, rfl, RowAt.nil⟩, HK.out⟩
/-- told. -/
theorem nTold (d : Dd) (K0 : Nat → Prop) (v v2 : Value) (hv : LnsAt K0 w v d.lines) (hv2 : SsAt K0 w v2 d.args) (hK0 : ∀ k, K0 k → k < w.heap.size) (hz1 : d.name.size ≤ maxLen) (hz2 : d.text.size ≤ 1000000) (hz3 : d.lines.length ≤ 10000000000000) (hz4 : d.args.length * 16 ≤ 140737488355328) (h : RKt U K w x fs) :
    Calls Tryz.prog 10 #[.pointer (some ⟨x, 0, none⟩), .agg #[.int .i64 d.what, .string d.name, .string d.text, v, v2, .int .i64 d.n]] w fun e w' => LnOut w w' e (ddL fs d) (ddE fs d) ∧ KTo U K w w' x (ddF fs d) := by
  obtain ⟨A, c, rfl, _⟩ := id hv
  obtain ⟨A2, c2, rfl, _⟩ := id hv2
  unfold ddL ddE ddF
  by_cases e0 : d.what = 0
  · have := nTold0 d A d.lines.length c A2 d.args.length c2 hz1 hz2 h e0
    simpa [e0, ddV] using this
  by_cases e1 : d.what = 1
  · have := nTold1 d A d.lines.length c A2 d.args.length c2 K0 hv hv2 hK0 hz1 hz3 hz4 h e1
    simpa [e1, ddV] using this
  by_cases e2 : d.what = 2
  · have := nTold2 d A d.lines.length c A2 d.args.length c2 K0 hv hK0 hz3 h e2
    simpa [e2, ddV] using this
  by_cases e3 : d.what = 3
  · have := nTold3 d A d.lines.length c A2 d.args.length c2 h e3
    simpa [e3, ddV] using this
  by_cases e4 : d.what = 4
  · have := nTold4 d A d.lines.length c A2 d.args.length c2 h e4
    simpa [e4, ddV] using this
  by_cases e5 : d.what = 5
  · have := nTold5 d A d.lines.length c A2 d.args.length c2 h e5
    simpa [e5, ddV] using this
  by_cases e6 : d.what = 6
  · have := nTold6 d A d.lines.length c A2 d.args.length c2 hz1 hz2 h e6
    simpa [e6, ddV] using this
  by_cases e7 : d.what = 7
  · have := nTold7 d A d.lines.length c A2 d.args.length c2 h e7
    simpa [e7, ddV] using this
  have := nTold8 d A d.lines.length c A2 d.args.length c2 h e0 e1 e2 e3 e4 e5 e6 e7
  simpa [e0, e1, e2, e3, e4, e5, e6, e7, ddV] using this
end
end Go.Proofs.YtpgkhhchpojlaaaGreatDoor
