/- Walks: a book's values, texts and formats; Move, Remove, Rename, Copy. -/
import Derived.Test.YtaamjccffkdlhaaGreatDoorKc
import Derived.Test.YtaamjccffkdlhaaGreatDoorIter
namespace Go.Proofs.YtaamjccffkdlhaaGreatDoor
open Go.RowKit Go.Maps Go.WideMaps

/-- A book after a register is struck. -/
theorem BkAt.del {w w' : World} {g bm n : Nat} {L : List Ent} {s : ByteArray} (h : BkAt w g bm L) (ho : w'.ownsMap Tryz.prog 9 RR bm n ((DB L).del (kOf s))) (hg : w.grownBy w' (some bm)) : BkAt w' g bm (delR L s) := by
  refine ⟨h.blk.grown hg (fun e => h.ne (by injection e)), ?_, h.srt.del, Nat.le_trans len_del h.len, fun p hp => h.good p ((del_sub s L).subset hp)⟩
  rw [del_DB h.srt] at ho
  have := ownsMap_tight ho
  rwa [size_DB] at this
/-- Value, of a book. -/
theorem cValue (s : ByteArray) (hs : s.size ≤ maxLen) (g bm : Nat) (L : List Ent) (w : World) (h : BkAt w g bm L) :
    Calls Tryz.prog 13 #[.pointer (some ⟨g, 0, none⟩), .string s] w fun e w' => e = .returned (.tuple #[.int .i64 (rdR L s).v, .int .i64 (erI (nameB s) 6)]) ∧ Below w.heap.size w w' := by
  have HR := Lib.hid (cRead s hs g bm L w h)
  clear h
  generalize erI (nameB s) 6 = k at HR ⊢
  generalize rdR L s = R at HR ⊢
  go_enter Tryz.func13, Tryz.ntmps13
  go_wp2_with (go_at_call 35; refine HR.out.mono ?_; rintro e w1 ⟨rfl, hb1⟩)
  go_ret2
  exact ⟨rfl, hb1.alloc hb1.size _⟩
/-- FormatOf, of a book. -/
theorem cFormatOf (s : ByteArray) (hs : s.size ≤ maxLen) (g bm : Nat) (L : List Ent) (w : World) (h : BkAt w g bm L) :
    Calls Tryz.prog 15 #[.pointer (some ⟨g, 0, none⟩), .string s] w fun e w' => e = .returned (.tuple #[.string (rdR L s).f, .int .i64 (erI (nameB s) 6)]) ∧ Below w.heap.size w w' := by
  have HR := Lib.hid (cRead s hs g bm L w h)
  clear h
  generalize erI (nameB s) 6 = k at HR ⊢
  generalize rdR L s = R at HR ⊢
  go_enter Tryz.func15, Tryz.ntmps15
  go_wp2_with (go_at_call 35; refine HR.out.mono ?_; rintro e w1 ⟨rfl, hb1⟩)
  go_ret2
  exact ⟨rfl, hb1.alloc hb1.size _⟩
def txS (L : List Ent) (s : ByteArray) : ByteArray := if nameB s then wrS (getR L s).v (getR L s).f else ⟨#[]⟩
def txE (L : List Ent) (s : ByteArray) : Int := if nameB s then wrE (getR L s).v (getR L s).f else 6
theorem good_f {s : ByteArray} {r : Reg} (h : goodR (s, r)) : r.f.size ≤ maxLen := by
  have h9 : r.f.size ≤ 9 := (fmtB_size h.2.2.2).1
  unfold maxLen
  omega
/-- Text, of a book. -/
theorem cText (s : ByteArray) (hs : s.size ≤ maxLen) (g bm : Nat) (L : List Ent) (w : World) (h : BkAt w g bm L) (hN : NumAt w) (hP : PowAt w) :
    Calls Tryz.prog 14 #[.pointer (some ⟨g, 0, none⟩), .string s] w fun e w' => e = .returned (.tuple #[.string (txS L s), .int .i64 (txE L s)]) ∧ Below w.heap.size w w' := by
  have HR := Lib.hid (cRead s hs g bm L w h)
  have hG := h.good
  clear h
  cases hn : nameB s
  · have e1 : txS L s = ⟨#[]⟩ := by unfold txS; rw [hn]; rfl
    have e2 : txE L s = 6 := by unfold txE; rw [hn]; rfl
    rw [e1, e2]
    rw [hn] at HR
    generalize rdR L s = R at HR
    go_enter Tryz.func14, Tryz.ntmps14
    go_wp2_with (go_at_call 35; refine HR.out.mono ?_; rintro e w1 ⟨rfl, hb1⟩; unfold erI)
    go_ret2
    exact ⟨rfl, hb1.alloc hb1.size _⟩
  · have e0 : rdR L s = getR L s := by unfold rdR; rw [if_pos hn]
    have e1 : txS L s = wrS (getR L s).v (getR L s).f := by unfold txS; rw [if_pos hn]
    have e2 : txE L s = wrE (getR L s).v (getR L s).f := by unfold txE; rw [if_pos hn]
    have hf := good_f (good_get hG hn)
    rw [e1, e2]
    rw [hn, e0] at HR
    have HW := Lib.hid (fun w hN hP => cWrite (getR L s).v (getR L s).f hf w hN hP)
    clear hG e0 e1 e2 hf
    generalize getR L s = R at HR HW ⊢
    generalize wrS R.v R.f = A at HW ⊢
    generalize wrE R.v R.f = B at HW ⊢
    go_enter Tryz.func14, Tryz.ntmps14
    go_wp2_with (first
      | (go_at_call 35; refine HR.out.mono ?_; rintro e w1 ⟨rfl, hb1⟩; unfold erI; have hb2 := Lib.hid (hb1.alloc hb1.size (.cells #[.int .i64 R.v, .int .i64 R.s, .string R.f] 60)))
      | (go_at_call 25; refine (HW.out _ (hN.below hb2.out) (hP.below hb2.out)).mono ?_; rintro e w3 ⟨rfl, hb3⟩))
    go_ret2
    exact ⟨rfl, ntrans hb2.out hb3⟩
/-- Remove, of a book. -/
theorem cRemove (s : ByteArray) (hs : s.size ≤ maxLen) (g bm : Nat) (L : List Ent) (w : World) (h : BkAt w g bm L) :
    Calls Tryz.prog 20 #[.pointer (some ⟨g, 0, none⟩), .string s] w fun e w' => e = .returned (.int .i64 (erI (nameB s) 6)) ∧ BkAt w' g bm (if nameB s then delR L s else L) ∧ Turn (· = bm) w w' := by
  have c0 := h.c0
  have HC := Lib.hid (cCheck s hs g bm w c0)
  have HK := Lib.hid h
  have hown := h.own
  clear h
  cases hn : nameB s
  · rw [hn] at HC
    have HPost : Hid (BkAt w g bm (if false = true then delR L s else L)) := Lib.hid (by rw [if_neg (by simp)]; exact HK.out)
    go_enter Tryz.func20, Tryz.ntmps20
    go_wp2_with (go_at_call 42; refine HC.out.mono ?_; rintro e w1 ⟨rfl, rfl⟩; unfold erI)
    go_ret
    exact ⟨rfl, HPost.out, Turn.refl _ _⟩
  · rw [hn] at HC
    rw [if_pos rfl]
    go_enter Tryz.func20, Tryz.ntmps20
    go_wp2_with (first
      | (go_at_call 42; refine HC.out.mono ?_; rintro e w1 ⟨rfl, rfl⟩; unfold erI)
      | (at_delete; refine wpList_delete_own _ rfl _ _ 54 9 rfl 60 law Tryz.underlying54 RR bm L.length (DB L) rfl hown (.string s) (kOf s) rfl (keyOf_string_mk Tryz.underlying9 hs) ?_; intro w2 ho2 ht2))
    go_ret
    exact ⟨rfl, HK.out.del ho2 ht2.grown, Turn.of_grown ht2.grown⟩
end Go.Proofs.YtaamjccffkdlhaaGreatDoor
