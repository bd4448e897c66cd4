/- Walks: New, Set, Step, Format. -/
import Derived.Test.YtaamjccffkdlhaaGreatDoorKb
namespace Go.Proofs.YtaamjccffkdlhaaGreatDoor
open Go.RowKit Go.Maps Go.WideMaps

/-- New. -/
theorem cNew (w : World) : Calls Tryz.prog 8 #[] w fun e w' => e = .returned (.pointer (some ⟨w.heap.size + 1, 0, none⟩)) ∧ BkAt w' (w.heap.size + 1) w.heap.size [] ∧ Below w.heap.size w w' := by
  have hmm := @run_makeMap Tryz.prog
  go_enter Tryz.func8, Tryz.ntmps8
  go_wp2_with fail
  go_ret
  refine ⟨rfl, ⟨?_, ?_, List.Pairwise.nil, by simp, by intro p hp; cases hp⟩, ((Below.refl _ _).alloc (Nat.le_refl _) _).alloc (by simp) _⟩
  · have := Blk.new (w.alloc (.map #[] 0)) 56 #[.map (some w.heap.size)]
    simpa using this
  · exact (World.ownsMap_made w Tryz.prog 9 RR).alloc _
theorem erI_0 {b : Bool} {k : Int} (hk : k ≠ 0) (h : erI b k = 0) : b = true := by
  cases b
  · exact absurd h hk
  · rfl
/-- Set, of a book. -/
theorem cSet (n : Int) (s : ByteArray) (hs : s.size ≤ maxLen) (g bm : Nat) (L : List Ent) (w : World) (h : BkAt w g bm L) :
    Calls Tryz.prog 17 #[.pointer (some ⟨g, 0, none⟩), .string s, .int .i64 n] w fun e w' =>
      e = .returned (.int .i64 (chE L s (erI (rngB n) 5))) ∧ BkAt w' g bm (chL L s (erI (rngB n) 5) { rdR L s with v := n }) ∧ Turn (· = bm) w w' := by
  have hb0 : Below w.heap.size w (w.alloc (.cells #[.int .i64 n] 3)) := (Below.refl _ _).alloc (Nat.le_refl _) _
  have hk0 := h.below hb0
  have hG := Lib.hid h.good
  have hx : (w.alloc (.cells #[.int .i64 n] 3)).cell? ⟨w.heap.size, 0, none⟩ = some (.int .i64 n) := Blk.cell (Blk.new w 3 #[.int .i64 n]) 0
  have HC := Lib.hid (fun w => cRng n w)
  have HG := Lib.hid (chgSet n (erI (rngB n) 5) s hs g bm w.heap.size L _ hk0 hx (by simp) (fun hk hn => have g := good_get hG.out hn; ⟨hn, erI_0 (by decide) hk, by unfold rdR; rw [if_pos hn]; exact g.2.2.1, by unfold rdR; rw [if_pos hn]; exact g.2.2.2⟩))
  have HB := Lib.hid hb0
  clear hk0 hx hb0 h
  generalize erI (rngB n) 5 = k at HC HG ⊢
  go_enter Tryz.func17, Tryz.ntmps17
  go_wp2_with (first
    | (go_at_call 37; refine (HC.out _).mono ?_; rintro e w1 ⟨rfl, rfl⟩)
    | (go_at_call 36; refine HG.out.mono ?_; rintro e w1 ⟨rfl, hk1, hT1⟩))
  go_ret
  exact ⟨rfl, hk1, (Turn.of_below HB.out : Turn (· = bm) w _).trans hT1 (fun _ _ h => h)⟩
/-- Step, of a book. -/
theorem cStep (n : Int) (s : ByteArray) (hs : s.size ≤ maxLen) (g bm : Nat) (L : List Ent) (w : World) (h : BkAt w g bm L) :
    Calls Tryz.prog 18 #[.pointer (some ⟨g, 0, none⟩), .string s, .int .i64 n] w fun e w' =>
      e = .returned (.int .i64 (chE L s (erI (rngB n) 5))) ∧ BkAt w' g bm (chL L s (erI (rngB n) 5) { rdR L s with s := n }) ∧ Turn (· = bm) w w' := by
  have hb0 : Below w.heap.size w (w.alloc (.cells #[.int .i64 n] 3)) := (Below.refl _ _).alloc (Nat.le_refl _) _
  have hk0 := h.below hb0
  have hG := Lib.hid h.good
  have hx : (w.alloc (.cells #[.int .i64 n] 3)).cell? ⟨w.heap.size, 0, none⟩ = some (.int .i64 n) := Blk.cell (Blk.new w 3 #[.int .i64 n]) 0
  have HC := Lib.hid (fun w => cRng n w)
  have HG := Lib.hid (chgStep n (erI (rngB n) 5) s hs g bm w.heap.size L _ hk0 hx (by simp) (fun hk hn => have g := good_get hG.out hn; ⟨hn, by unfold rdR; rw [if_pos hn]; exact g.2.1, erI_0 (by decide) hk, by unfold rdR; rw [if_pos hn]; exact g.2.2.2⟩))
  have HB := Lib.hid hb0
  clear hk0 hx hb0 h
  generalize erI (rngB n) 5 = k at HC HG ⊢
  go_enter Tryz.func18, Tryz.ntmps18
  go_wp2_with (first
    | (go_at_call 37; refine (HC.out _).mono ?_; rintro e w1 ⟨rfl, rfl⟩)
    | (go_at_call 36; refine HG.out.mono ?_; rintro e w1 ⟨rfl, hk1, hT1⟩))
  go_ret
  exact ⟨rfl, hk1, (Turn.of_below HB.out : Turn (· = bm) w _).trans hT1 (fun _ _ h => h)⟩
/-- Format, of a book. -/
theorem cFormat (F : ByteArray) (hF : F.size ≤ maxLen) (s : ByteArray) (hs : s.size ≤ maxLen) (g bm : Nat) (L : List Ent) (w : World) (h : BkAt w g bm L) :
    Calls Tryz.prog 19 #[.pointer (some ⟨g, 0, none⟩), .string s, .string F] w fun e w' =>
      e = .returned (.int .i64 (chE L s (erI (fmtB F) 4))) ∧ BkAt w' g bm (chL L s (erI (fmtB F) 4) { rdR L s with f := F }) ∧ Turn (· = bm) w w' := by
  have hb0 : Below w.heap.size w (w.alloc (.cells #[.string F] 9)) := (Below.refl _ _).alloc (Nat.le_refl _) _
  have hk0 := h.below hb0
  have hG := Lib.hid h.good
  have hx : (w.alloc (.cells #[.string F] 9)).cell? ⟨w.heap.size, 0, none⟩ = some (.string F) := Blk.cell (Blk.new w 9 #[.string F]) 0
  have HC := Lib.hid (fun w => cFmt F hF w)
  have HG := Lib.hid (chgFormat F (erI (fmtB F) 4) s hs g bm w.heap.size L _ hk0 hx (by simp) (fun hk hn => have g := good_get hG.out hn; ⟨hn, by unfold rdR; rw [if_pos hn]; exact g.2.1, by unfold rdR; rw [if_pos hn]; exact g.2.2.1, erI_0 (by decide) hk⟩))
  have HB := Lib.hid hb0
  clear hk0 hx hb0 h
  generalize erI (fmtB F) 4 = k at HC HG ⊢
  go_enter Tryz.func19, Tryz.ntmps19
  go_wp2_with (first
    | (go_at_call 40; refine (HC.out _).mono ?_; rintro e w1 ⟨rfl, rfl⟩)
    | (go_at_call 36; refine HG.out.mono ?_; rintro e w1 ⟨rfl, hk1, hT1⟩))
  go_ret
  exact ⟨rfl, hk1, (Turn.of_below HB.out : Turn (· = bm) w _).trans hT1 (fun _ _ h => h)⟩
end Go.Proofs.YtaamjccffkdlhaaGreatDoor
