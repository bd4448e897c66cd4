/- Walk: a deed is done to both books, and what else has turned (does). -/
import Derived.Test.YtaamjccffkdlhaaGreatDoorMp
namespace Go.Proofs.YtaamjccffkdlhaaGreatDoor
open Go.RowKit Go.Maps Go.WideMaps Go.Joins

/-- Both books behind a deed, and what has turned. -/
def DoneTo (w0 w : World) (g bm x : Nat) (v : Value) (w' : World) : Prop :=
  ∃ v' L', Both w0 w' g bm x v' L' ∧ Turn (fun i => i = bm ∨ i = x ∨ v.ownBlock = some i) w w' ∧ ∀ q, v'.ownBlock = some q → v.ownBlock = some q ∨ w.heap.size ≤ q
theorem DoneTo.from_ {w0 w W w' : World} {g bm x : Nat} {v : Value} (hb : Below w.heap.size w W) (h : DoneTo w0 W g bm x v w') : DoneTo w0 w g bm x v w' := by
  obtain ⟨v', L', h1, h2, h3⟩ := h
  refine ⟨v', L', h1, (Turn.of_below hb : Turn (fun i => i = bm ∨ i = x ∨ v.ownBlock = some i) w W).trans h2 (fun _ _ h => h), fun q hq => ?_⟩
  rcases h3 q hq with e | e
  · exact .inl e
  · exact .inr (Nat.le_trans hb.size e)
theorem DoneTo.stay {w0 w w' : World} {g bm x : Nat} {v : Value} {L : List Ent} (h : Both w0 w g bm x v L) (hb : Below w.heap.size w w') : DoneTo w0 w g bm x v w' :=
  ⟨v, L, h.at_ hb, Turn.of_below hb, fun _ h => .inl h⟩
theorem Both.midF {w0 w w1 : World} {g bm x : Nat} {v : Value} {L L' : List Ent} (h : Both w0 w g bm x v L) (hk : BkAt w1 g bm L') (hT : Turn (· = bm) w w1) :
    RfAt w0.heap.size w1 x v L ∧ w0.heap.size ≤ w1.heap.size ∧ ∀ w2, RfTo w0.heap.size w1 x v w2 L' → DoneTo w0 w g bm x v w2 := by
  have hxb : x ≠ bm := h.bk.ne_blk h.rf.blk
  have hrb : ∀ q, v.ownBlock = some q → q ≠ bm := fun q hq => by
    obtain ⟨cur, hc⟩ := row_blk h.rf.own hq
    exact h.bk.ne_blk hc
  have hgx : g ≠ x := blk_ne h.bk.blk h.rf.blk (by decide)
  have hgr : ∀ q, v.ownBlock = some q → g ≠ q := fun q hq => by
    obtain ⟨cur, hc⟩ := row_blk h.rf.own hq
    exact blk_ne h.bk.blk hc (by decide)
  have hB1 : Below w0.heap.size w0 w1 := hT.below h.below h.below.size (fun i e => by rw [e]; exact h.hm)
  refine ⟨h.rf.turn hT hxb hrb, hB1.size, fun w2 ht => ?_⟩
  obtain ⟨v', q1, q2, q3⟩ := ht
  refine ⟨v', L', ⟨q3.below hB1 hB1.size (fun i e => ?_), hk.turn q3 ?_ ?_, q1, h.hg, h.hm, h.hx⟩, ?_, fun q hq => ?_⟩
  · rcases e with e | e
    · rw [e]; exact h.hx
    · exact own_ge h.rf.own e
  · rintro (e | e)
    · exact hgx e
    · exact hgr g e rfl
  · rintro (e | e)
    · exact hxb e.symm
    · exact hrb bm e rfl
  · exact (hT.mono (fun i e => .inl e)).trans q3 (fun i _ e => .inr e)
  · rcases q2 q hq with e | e
    · exact .inl e
    · exact .inr (Nat.le_trans hT.size e)
set_option maxRecDepth 100000 in
set_option maxHeartbeats 2000000 in
/-- does: Set. -/
theorem lDoFSet (D n : Int) (s F : ByteArray) (hs : s.size ≤ maxLen) (_hF : F.size ≤ maxLen) (hD : (IntKind.u64.wrap D).tmod 7 = 0) (w0 : World) (g bm x : Nat) (v : Value) (L : List Ent) (w : World) (h : Both w0 w g bm x v L) :
    Calls Tryz.prog 9 #[.pointer (some ⟨g, 0, none⟩), .pointer (some ⟨x, 0, none⟩), .agg #[.int .i64 D, .string s, .string F, .int .i64 n]] w fun e w' => e = .returned (.bool true) ∧ DoneTo w0 w g bm x v w' := by
  have hB0 := (Below.refl w.heap.size w).alloc (Nat.le_refl _) (.cells #[.int .i64 D, .string s, .string F, .int .i64 n] 32)
  have hJ := Lib.hid ((h.at_ hB0).at_ ((Below.refl _ _).drew))
  have hz := Blk.new w 32 #[.int .i64 D, .string s, .string F, .int .i64 n]
  have hzd := Lib.hid (hz.drew)
  have HZ := Lib.hid hz
  have hl := h.bk.len
  have H1 := Lib.hid (cSet n s hs g bm L _ hJ.out.bk)
  have H2 := Lib.hid (fun w1 hr hw => nSet n s hs w0.heap.size x v L hl w1 hr hw)
  have d := deed_cells hz
  have d0 := hz.cell 0
  have d1 := d.1
  have d2 := d.2.1
  have d3 := d.2.2
  have HBW := Lib.hid (ntrans hB0 ((Below.refl _ _).drew))
  clear d hz hB0 h
  have q0 : ((IntKind.u64.wrap D).tmod 7 == 0) = true := by rw [hD]; rfl
  clear hD
  go_enter Tryz.func9, Tryz.ntmps9
  go_wp2_with fail
  go_region_held3 (fun w' => w'.cell? ⟨w.heap.size, 1, none⟩ = some (.string s) ∧ w'.cell? ⟨w.heap.size, 2, none⟩ = some (.string F) ∧ w'.cell? ⟨w.heap.size, 3, none⟩ = some (.int .i64 n))
    (first | exact deed_cells HZ.out | exact deed_cells hzd.out | exact deed_cells (hJ.out.own_kept hT1 hzd.out) | exact deed_cells (hJ.out.own_kept2 hT1 hzd.out ht))
    (first
      | (go_at_call 17; with_reducible refine H1.out.mono ?_; rintro e w1 ⟨rfl, hk1, hT1⟩; have hmid := Lib.hid (hJ.out.midF hk1 hT1))
      | (go_at_call 26; with_reducible refine (H2.out _ hmid.out.1 hmid.out.2.1).mono ?_; rintro e w2 ⟨rfl, ht⟩))
  go_wp2_with fail
  go_ret
  exact ⟨rfl, (hmid.out.2.2 _ ht).from_ HBW.out⟩
set_option maxRecDepth 100000 in
set_option maxHeartbeats 2000000 in
/-- does: Step. -/
theorem lDoFStep (D n : Int) (s F : ByteArray) (hs : s.size ≤ maxLen) (_hF : F.size ≤ maxLen) (hD : (IntKind.u64.wrap D).tmod 7 = 1) (w0 : World) (g bm x : Nat) (v : Value) (L : List Ent) (w : World) (h : Both w0 w g bm x v L) :
    Calls Tryz.prog 9 #[.pointer (some ⟨g, 0, none⟩), .pointer (some ⟨x, 0, none⟩), .agg #[.int .i64 D, .string s, .string F, .int .i64 n]] w fun e w' => e = .returned (.bool true) ∧ DoneTo w0 w g bm x v w' := by
  have hB0 := (Below.refl w.heap.size w).alloc (Nat.le_refl _) (.cells #[.int .i64 D, .string s, .string F, .int .i64 n] 32)
  have hJ := Lib.hid ((h.at_ hB0).at_ ((Below.refl _ _).drew))
  have hz := Blk.new w 32 #[.int .i64 D, .string s, .string F, .int .i64 n]
  have hzd := Lib.hid (hz.drew)
  have HZ := Lib.hid hz
  have hl := h.bk.len
  have H1 := Lib.hid (cStep n s hs g bm L _ hJ.out.bk)
  have H2 := Lib.hid (fun w1 hr hw => nStep n s hs w0.heap.size x v L hl w1 hr hw)
  have d := deed_cells hz
  have d0 := hz.cell 0
  have d1 := d.1
  have d2 := d.2.1
  have d3 := d.2.2
  have HBW := Lib.hid (ntrans hB0 ((Below.refl _ _).drew))
  clear d hz hB0 h
  have q0 : ((IntKind.u64.wrap D).tmod 7 == 0) = false := by rw [hD]; rfl
  have q1 : ((IntKind.u64.wrap D).tmod 7 == 1) = true := by rw [hD]; rfl
  clear hD
  go_enter Tryz.func9, Tryz.ntmps9
  go_wp2_with fail
  go_region_held3 (fun w' => w'.cell? ⟨w.heap.size, 1, none⟩ = some (.string s) ∧ w'.cell? ⟨w.heap.size, 2, none⟩ = some (.string F) ∧ w'.cell? ⟨w.heap.size, 3, none⟩ = some (.int .i64 n))
    (first | exact deed_cells HZ.out | exact deed_cells hzd.out | exact deed_cells (hJ.out.own_kept hT1 hzd.out) | exact deed_cells (hJ.out.own_kept2 hT1 hzd.out ht))
    (first
      | (go_at_call 18; with_reducible refine H1.out.mono ?_; rintro e w1 ⟨rfl, hk1, hT1⟩; have hmid := Lib.hid (hJ.out.midF hk1 hT1))
      | (go_at_call 27; with_reducible refine (H2.out _ hmid.out.1 hmid.out.2.1).mono ?_; rintro e w2 ⟨rfl, ht⟩))
  go_wp2_with fail
  go_ret
  exact ⟨rfl, (hmid.out.2.2 _ ht).from_ HBW.out⟩
set_option maxRecDepth 100000 in
set_option maxHeartbeats 2000000 in
/-- does: Format. -/
theorem lDoFFormat (D n : Int) (s F : ByteArray) (hs : s.size ≤ maxLen) (hF : F.size ≤ maxLen) (hD : (IntKind.u64.wrap D).tmod 7 = 2) (w0 : World) (g bm x : Nat) (v : Value) (L : List Ent) (w : World) (h : Both w0 w g bm x v L) :
    Calls Tryz.prog 9 #[.pointer (some ⟨g, 0, none⟩), .pointer (some ⟨x, 0, none⟩), .agg #[.int .i64 D, .string s, .string F, .int .i64 n]] w fun e w' => e = .returned (.bool true) ∧ DoneTo w0 w g bm x v w' := by
  have hB0 := (Below.refl w.heap.size w).alloc (Nat.le_refl _) (.cells #[.int .i64 D, .string s, .string F, .int .i64 n] 32)
  have hJ := Lib.hid ((h.at_ hB0).at_ ((Below.refl _ _).drew))
  have hz := Blk.new w 32 #[.int .i64 D, .string s, .string F, .int .i64 n]
  have hzd := Lib.hid (hz.drew)
  have HZ := Lib.hid hz
  have hl := h.bk.len
  have H1 := Lib.hid (cFormat F hF s hs g bm L _ hJ.out.bk)
  have H2 := Lib.hid (fun w1 hr hw => nFormat F hF s hs w0.heap.size x v L hl w1 hr hw)
  have d := deed_cells hz
  have d0 := hz.cell 0
  have d1 := d.1
  have d2 := d.2.1
  have d3 := d.2.2
  have HBW := Lib.hid (ntrans hB0 ((Below.refl _ _).drew))
  clear d hz hB0 h
  have q0 : ((IntKind.u64.wrap D).tmod 7 == 0) = false := by rw [hD]; rfl
  have q1 : ((IntKind.u64.wrap D).tmod 7 == 1) = false := by rw [hD]; rfl
  have q2 : ((IntKind.u64.wrap D).tmod 7 == 2) = true := by rw [hD]; rfl
  clear hD
  go_enter Tryz.func9, Tryz.ntmps9
  go_wp2_with fail
  go_region_held3 (fun w' => w'.cell? ⟨w.heap.size, 1, none⟩ = some (.string s) ∧ w'.cell? ⟨w.heap.size, 2, none⟩ = some (.string F) ∧ w'.cell? ⟨w.heap.size, 3, none⟩ = some (.int .i64 n))
    (first | exact deed_cells HZ.out | exact deed_cells hzd.out | exact deed_cells (hJ.out.own_kept hT1 hzd.out) | exact deed_cells (hJ.out.own_kept2 hT1 hzd.out ht))
    (first
      | (go_at_call 19; with_reducible refine H1.out.mono ?_; rintro e w1 ⟨rfl, hk1, hT1⟩; have hmid := Lib.hid (hJ.out.midF hk1 hT1))
      | (go_at_call 28; with_reducible refine (H2.out _ hmid.out.1 hmid.out.2.1).mono ?_; rintro e w2 ⟨rfl, ht⟩))
  go_wp2_with fail
  go_ret
  exact ⟨rfl, (hmid.out.2.2 _ ht).from_ HBW.out⟩
set_option maxRecDepth 100000 in
set_option maxHeartbeats 2000000 in
/-- does: Remove. -/
theorem lDoFRemove (D n : Int) (s F : ByteArray) (hs : s.size ≤ maxLen) (_hF : F.size ≤ maxLen) (hD : (IntKind.u64.wrap D).tmod 7 = 4) (w0 : World) (g bm x : Nat) (v : Value) (L : List Ent) (w : World) (h : Both w0 w g bm x v L) :
    Calls Tryz.prog 9 #[.pointer (some ⟨g, 0, none⟩), .pointer (some ⟨x, 0, none⟩), .agg #[.int .i64 D, .string s, .string F, .int .i64 n]] w fun e w' => e = .returned (.bool true) ∧ DoneTo w0 w g bm x v w' := by
  have hB0 := (Below.refl w.heap.size w).alloc (Nat.le_refl _) (.cells #[.int .i64 D, .string s, .string F, .int .i64 n] 32)
  have hJ := Lib.hid ((h.at_ hB0).at_ ((Below.refl _ _).drew))
  have hz := Blk.new w 32 #[.int .i64 D, .string s, .string F, .int .i64 n]
  have hzd := Lib.hid (hz.drew)
  have HZ := Lib.hid hz
  have hl := h.bk.len
  have H1 := Lib.hid (cRemove s hs g bm L _ hJ.out.bk)
  have H2 := Lib.hid (fun w1 hr hw => nRemove s hs w0.heap.size x v L hl w1 hr hw)
  have d := deed_cells hz
  have d0 := hz.cell 0
  have d1 := d.1
  have d2 := d.2.1
  have d3 := d.2.2
  have HBW := Lib.hid (ntrans hB0 ((Below.refl _ _).drew))
  clear d hz hB0 h
  have q0 : ((IntKind.u64.wrap D).tmod 7 == 0) = false := by rw [hD]; rfl
  have q1 : ((IntKind.u64.wrap D).tmod 7 == 1) = false := by rw [hD]; rfl
  have q2 : ((IntKind.u64.wrap D).tmod 7 == 2) = false := by rw [hD]; rfl
  have q3 : ((IntKind.u64.wrap D).tmod 7 == 3) = false := by rw [hD]; rfl
  have q4 : ((IntKind.u64.wrap D).tmod 7 == 4) = true := by rw [hD]; rfl
  clear hD
  go_enter Tryz.func9, Tryz.ntmps9
  go_wp2_with fail
  go_region_held3 (fun w' => w'.cell? ⟨w.heap.size, 1, none⟩ = some (.string s) ∧ w'.cell? ⟨w.heap.size, 2, none⟩ = some (.string F) ∧ w'.cell? ⟨w.heap.size, 3, none⟩ = some (.int .i64 n))
    (first | exact deed_cells HZ.out | exact deed_cells hzd.out | exact deed_cells (hJ.out.own_kept hT1 hzd.out) | exact deed_cells (hJ.out.own_kept2 hT1 hzd.out ht))
    (first
      | (go_at_call 20; with_reducible refine H1.out.mono ?_; rintro e w1 ⟨rfl, hk1, hT1⟩; have hmid := Lib.hid (hJ.out.midF hk1 hT1))
      | (go_at_call 30; with_reducible refine (H2.out _ hmid.out.1 hmid.out.2.1).mono ?_; rintro e w2 ⟨rfl, ht⟩))
  go_wp2_with fail
  go_ret
  exact ⟨rfl, (hmid.out.2.2 _ ht).from_ HBW.out⟩
set_option maxRecDepth 100000 in
set_option maxHeartbeats 2000000 in
/-- does: Rename. -/
theorem lDoFRename (D n : Int) (s F : ByteArray) (hs : s.size ≤ maxLen) (hF : F.size ≤ maxLen) (hD : (IntKind.u64.wrap D).tmod 7 = 5) (w0 : World) (g bm x : Nat) (v : Value) (L : List Ent) (w : World) (h : Both w0 w g bm x v L) :
    Calls Tryz.prog 9 #[.pointer (some ⟨g, 0, none⟩), .pointer (some ⟨x, 0, none⟩), .agg #[.int .i64 D, .string s, .string F, .int .i64 n]] w fun e w' => e = .returned (.bool true) ∧ DoneTo w0 w g bm x v w' := by
  have hB0 := (Below.refl w.heap.size w).alloc (Nat.le_refl _) (.cells #[.int .i64 D, .string s, .string F, .int .i64 n] 32)
  have hJ := Lib.hid ((h.at_ hB0).at_ ((Below.refl _ _).drew))
  have hz := Blk.new w 32 #[.int .i64 D, .string s, .string F, .int .i64 n]
  have hzd := Lib.hid (hz.drew)
  have HZ := Lib.hid hz
  have hl := h.bk.len
  have H1 := Lib.hid (cRename s F hs hF g bm L _ hJ.out.bk)
  have H2 := Lib.hid (fun w1 hr hw => nRename s F hs hF w0.heap.size x v L hl h.bk.srt w1 hr hw)
  have d := deed_cells hz
  have d0 := hz.cell 0
  have d1 := d.1
  have d2 := d.2.1
  have d3 := d.2.2
  have HBW := Lib.hid (ntrans hB0 ((Below.refl _ _).drew))
  clear d hz hB0 h
  have q0 : ((IntKind.u64.wrap D).tmod 7 == 0) = false := by rw [hD]; rfl
  have q1 : ((IntKind.u64.wrap D).tmod 7 == 1) = false := by rw [hD]; rfl
  have q2 : ((IntKind.u64.wrap D).tmod 7 == 2) = false := by rw [hD]; rfl
  have q3 : ((IntKind.u64.wrap D).tmod 7 == 3) = false := by rw [hD]; rfl
  have q4 : ((IntKind.u64.wrap D).tmod 7 == 4) = false := by rw [hD]; rfl
  have q5 : ((IntKind.u64.wrap D).tmod 7 == 5) = true := by rw [hD]; rfl
  clear hD
  go_enter Tryz.func9, Tryz.ntmps9
  go_wp2_with fail
  go_region_held3 (fun w' => w'.cell? ⟨w.heap.size, 1, none⟩ = some (.string s) ∧ w'.cell? ⟨w.heap.size, 2, none⟩ = some (.string F) ∧ w'.cell? ⟨w.heap.size, 3, none⟩ = some (.int .i64 n))
    (first | exact deed_cells HZ.out | exact deed_cells hzd.out | exact deed_cells (hJ.out.own_kept hT1 hzd.out) | exact deed_cells (hJ.out.own_kept2 hT1 hzd.out ht))
    (first
      | (go_at_call 21; with_reducible refine H1.out.mono ?_; rintro e w1 ⟨rfl, hk1, hT1⟩; have hmid := Lib.hid (hJ.out.midF hk1 hT1))
      | (go_at_call 31; with_reducible refine (H2.out _ hmid.out.1 hmid.out.2.1).mono ?_; rintro e w2 ⟨rfl, ht⟩))
  go_wp2_with fail
  go_ret
  exact ⟨rfl, (hmid.out.2.2 _ ht).from_ HBW.out⟩
end Go.Proofs.YtaamjccffkdlhaaGreatDoor
