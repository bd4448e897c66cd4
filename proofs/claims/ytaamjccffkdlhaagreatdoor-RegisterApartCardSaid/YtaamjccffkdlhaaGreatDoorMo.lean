/- Walks: the other deeds (does). -/
import Derived.Test.YtaamjccffkdlhaaGreatDoorMn
namespace Go.Proofs.YtaamjccffkdlhaaGreatDoor
open Go.RowKit Go.Maps Go.WideMaps Go.Joins

set_option maxRecDepth 100000 in
set_option maxHeartbeats 2000000 in
/-- does: Move. -/
theorem lDoMove (D n : Int) (s F : ByteArray) (hs : s.size ≤ maxLen) (hD : (IntKind.u64.wrap D).tmod 7 = 3) (w0 : World) (g bm x : Nat) (v : Value) (L : List Ent) (w : World) (h : Both w0 w g bm x v L) :
    Calls Tryz.prog 9 #[.pointer (some ⟨g, 0, none⟩), .pointer (some ⟨x, 0, none⟩), .agg #[.int .i64 D, .string s, .string F, .int .i64 n]] w fun e w' => e = .returned (.bool true) ∧ ∃ v' L', Both w0 w' g bm x v' L' := by
  have hB0 := (Below.refl w.heap.size w).alloc (Nat.le_refl _) (.cells #[.int .i64 D, .string s, .string F, .int .i64 n] 32)
  have hJ := Lib.hid (h.at_ hB0)
  have hz := Blk.new w 32 #[.int .i64 D, .string s, .string F, .int .i64 n]
  have HZ := Lib.hid hz
  have hl := h.bk.len
  have H1 := Lib.hid (cMove s hs (decide (0 ≤ n)) g bm L _ hJ.out.bk)
  have H2 := Lib.hid (fun w1 hr hw => nMove s hs (decide (0 ≤ n)) w0.heap.size x v L hl h.bk.good w1 hr hw)
  have d := deed_cells hz
  have d0 := hz.cell 0
  have d1 := d.1
  have d2 := d.2.1
  have d3 := d.2.2
  clear d hz hB0 h
  have q0 : ((IntKind.u64.wrap D).tmod 7 == 0) = false := by rw [hD]; rfl
  have q1 : ((IntKind.u64.wrap D).tmod 7 == 1) = false := by rw [hD]; rfl
  have q2 : ((IntKind.u64.wrap D).tmod 7 == 2) = false := by rw [hD]; rfl
  have q3 : ((IntKind.u64.wrap D).tmod 7 == 3) = true := by rw [hD]; rfl
  clear hD
  go_enter Tryz.func9, Tryz.ntmps9
  go_wp2_with (first
    | (go_at_call 16; with_reducible refine H1.out.mono ?_; rintro e w1 ⟨rfl, hk1, hT1⟩; have hmid := Lib.hid (hJ.out.mid hk1 hT1); have hb1 := hJ.out.own_kept hT1 HZ.out; have e1 := (deed_cells hb1).1; have e3 := (deed_cells hb1).2.2; clear hb1)
    | (go_at_call 29; with_reducible refine (H2.out _ hmid.out.1 hmid.out.2.1).mono ?_; rintro e w2 ⟨rfl, ht⟩))
  go_ret
  exact ⟨rfl, hmid.out.2.2 _ ht⟩
set_option maxRecDepth 100000 in
set_option maxHeartbeats 2000000 in
/-- does: a book is asked. -/
theorem lDoAsk (D n : Int) (s F : ByteArray) (hs : s.size ≤ maxLen) (hD : (IntKind.u64.wrap D).tmod 7 = 6) (w0 : World) (hN0 : NumAt w0) (hP0 : PowAt w0) (g bm x : Nat) (v : Value) (L : List Ent) (w : World) (h : Both w0 w g bm x v L) :
    Calls Tryz.prog 9 #[.pointer (some ⟨g, 0, none⟩), .pointer (some ⟨x, 0, none⟩), .agg #[.int .i64 D, .string s, .string F, .int .i64 n]] w fun e w' => e = .returned (.bool true) ∧ ∃ v' L', Both w0 w' g bm x v' L' := by
  have hB0 := (Below.refl w.heap.size w).alloc (Nat.le_refl _) (.cells #[.int .i64 D, .string s, .string F, .int .i64 n] 32)
  have hJ := Lib.hid (h.at_ hB0)
  have hz := Blk.new w 32 #[.int .i64 D, .string s, .string F, .int .i64 n]
  have H1 := Lib.hid (lAsked s hs w0 hN0 hP0 g bm x v L _ hJ.out)
  have d := deed_cells hz
  have d0 := hz.cell 0
  have d1 := d.1
  clear d hz hB0 h hN0 hP0
  have q0 : ((IntKind.u64.wrap D).tmod 7 == 0) = false := by rw [hD]; rfl
  have q1 : ((IntKind.u64.wrap D).tmod 7 == 1) = false := by rw [hD]; rfl
  have q2 : ((IntKind.u64.wrap D).tmod 7 == 2) = false := by rw [hD]; rfl
  have q3 : ((IntKind.u64.wrap D).tmod 7 == 3) = false := by rw [hD]; rfl
  have q4 : ((IntKind.u64.wrap D).tmod 7 == 4) = false := by rw [hD]; rfl
  have q5 : ((IntKind.u64.wrap D).tmod 7 == 5) = false := by rw [hD]; rfl
  clear hD
  go_enter Tryz.func9, Tryz.ntmps9
  go_wp2_with (go_at_call 32; with_reducible refine H1.out.mono ?_; rintro e w1 ⟨rfl, hb1⟩)
  go_ret
  exact ⟨rfl, v, L, hJ.out.at_ hb1⟩
/-- does. -/
theorem lDoes (D n : Int) (s F : ByteArray) (hs : s.size ≤ maxLen) (hF : F.size ≤ maxLen) (w0 : World) (hN0 : NumAt w0) (hP0 : PowAt w0) (g bm x : Nat) (v : Value) (L : List Ent) (w : World) (h : Both w0 w g bm x v L) :
    Calls Tryz.prog 9 #[.pointer (some ⟨g, 0, none⟩), .pointer (some ⟨x, 0, none⟩), .agg #[.int .i64 D, .string s, .string F, .int .i64 n]] w fun e w' => e = .returned (.bool true) ∧ ∃ v' L', Both w0 w' g bm x v' L' := by
  obtain ⟨m, hm, hD⟩ := u64_tmod D
  match m, hm with
  | 0, _ => exact lDoSet D n s F hs hF hD w0 g bm x v L w h
  | 1, _ => exact lDoStep D n s F hs hF hD w0 g bm x v L w h
  | 2, _ => exact lDoFormat D n s F hs hF hD w0 g bm x v L w h
  | 3, _ => exact lDoMove D n s F hs hD w0 g bm x v L w h
  | 4, _ => exact lDoRemove D n s F hs hF hD w0 g bm x v L w h
  | 5, _ => exact lDoRename D n s F hs hF hD w0 g bm x v L w h
  | 6, _ => exact lDoAsk D n s F hs hD w0 hN0 hP0 g bm x v L w h
  | m + 7, hm => omega
end Go.Proofs.YtaamjccffkdlhaaGreatDoor
