/- Walks: the document's Value, FormatOf, Remove. -/
import Derived.Test.YtaamjccffkdlhaaGreatDoorMg
import Derived.Test.YtaamjccffkdlhaaGreatDoorKd
namespace Go.Proofs.YtaamjccffkdlhaaGreatDoor
open Go.RowKit Go.Maps Go.WideMaps Go.Joins

set_option maxRecDepth 100000 in
/-- Value, of the document's book. -/
theorem nValue (s : ByteArray) (hs : s.size ≤ maxLen) (b x : Nat) (v : Value) (L : List Ent) (hl : L.length ≤ 500) (w : World) (h : RfAt b w x v L) :
    Calls Tryz.prog 55 #[.pointer (some ⟨x, 0, none⟩), .string s] w fun e w' => e = .returned (.tuple #[.int .i64 (rdR L s).v, .int .i64 (erI (nameB s) 6)]) ∧ Below w.heap.size w w' := by
  have HN := Lib.hid (fun w => nName s hs w)
  have HG := Lib.hid (nGet s b x v L hl w h)
  clear h
  cases hn : nameB s
  · rw [hn] at HN
    rw [rdR_bad hn]
    go_enter Tryz.func55, Tryz.ntmps55
    go_wp2_with (go_at_call 48; refine (HN.out _).mono ?_; rintro e w1 ⟨rfl, rfl⟩)
    go_ret2
    exact ⟨rfl, Below.refl _ _⟩
  · rw [hn] at HN
    rw [show rdR L s = getR L s by unfold rdR; rw [if_pos hn]]
    generalize getR L s = R at HG ⊢
    unfold rVal at HG
    have hfd : ∀ w : World, (Instr.field 75 (.agg #[.string s, .int .i64 R.v, .int .i64 R.s, .string R.f]) 1).run Tryz.prog w = .ok (.int .i64 R.v) w := fun _ => by kernel_rfl
    go_enter Tryz.func55, Tryz.ntmps55
    go_wp2_with (first
      | (go_at_call 48; refine (HN.out _).mono ?_; rintro e w1 ⟨rfl, rfl⟩)
      | (go_at_call 50; refine HG.out.mono ?_; rintro e w1 ⟨rfl, hb1⟩))
    go_ret2
    exact ⟨rfl, hb1⟩
set_option maxRecDepth 100000 in
/-- FormatOf, of the document's book. -/
theorem nFormatOf (s : ByteArray) (hs : s.size ≤ maxLen) (b x : Nat) (v : Value) (L : List Ent) (hl : L.length ≤ 500) (w : World) (h : RfAt b w x v L) :
    Calls Tryz.prog 57 #[.pointer (some ⟨x, 0, none⟩), .string s] w fun e w' => e = .returned (.tuple #[.string (rdR L s).f, .int .i64 (erI (nameB s) 6)]) ∧ Below w.heap.size w w' := by
  have HN := Lib.hid (fun w => nName s hs w)
  have HG := Lib.hid (nGet s b x v L hl w h)
  clear h
  cases hn : nameB s
  · rw [hn] at HN
    rw [rdR_bad hn]
    go_enter Tryz.func57, Tryz.ntmps57
    go_wp2_with (go_at_call 48; refine (HN.out _).mono ?_; rintro e w1 ⟨rfl, rfl⟩)
    go_ret2
    exact ⟨rfl, Below.refl _ _⟩
  · rw [hn] at HN
    rw [show rdR L s = getR L s by unfold rdR; rw [if_pos hn]]
    generalize getR L s = R at HG ⊢
    unfold rVal at HG
    have hfd : ∀ w : World, (Instr.field 75 (.agg #[.string s, .int .i64 R.v, .int .i64 R.s, .string R.f]) 3).run Tryz.prog w = .ok (.string R.f) w := fun _ => by kernel_rfl
    go_enter Tryz.func57, Tryz.ntmps57
    go_wp2_with (first
      | (go_at_call 48; refine (HN.out _).mono ?_; rintro e w1 ⟨rfl, rfl⟩)
      | (go_at_call 50; refine HG.out.mono ?_; rintro e w1 ⟨rfl, hb1⟩))
    go_ret2
    exact ⟨rfl, hb1⟩
theorem row2b {w1 w3 : World} {v1 v3 : Value} (h1 : v1.ownBlock = (Value.slice (some ⟨w1.heap.size, 0, none⟩) 0 0).ownBlock ∨ v1.ownBlock = some (w1.alloc (.cells #[] 75)).heap.size)
    (h3 : v3.ownBlock = v1.ownBlock ∨ v3.ownBlock = some w3.heap.size) (hs3 : w1.heap.size ≤ w3.heap.size) : ∀ g, v3.ownBlock = some g → w1.heap.size ≤ g := by
  intro g hg
  rcases h3 with h3 | h3
  · rw [h3] at hg
    rcases h1 with h1 | h1
    · rw [h1] at hg; simp [Value.ownBlock] at hg; omega
    · rw [h1] at hg; simp at hg; omega
  · rw [h3] at hg; simp at hg; omega
set_option maxRecDepth 100000 in
set_option maxHeartbeats 1000000 in
/-- Remove, where the register is there. -/
theorem nRemoveHas (s : ByteArray) (hs : s.size ≤ maxLen) (b x g cap : Nat) (L : List Ent) (hl : L.length ≤ 500) (hn : nameB s = true) (hh : hasB L s = true) (w : World) (h : RfAt b w x (.slice (some ⟨g, 0, none⟩) L.length cap) L) (hbw : b ≤ w.heap.size) :
    Calls Tryz.prog 30 #[.pointer (some ⟨x, 0, none⟩), .string s] w fun e w' => e = .returned (.int .i64 0) ∧ RfTo b w x (.slice (some ⟨g, 0, none⟩) L.length cap) w' (delR L s) := by
  have hxl := h.blk.lt
  have HN := Lib.hid (fun w => nName s hs w)
  have HA := Lib.hid (cAt s b x _ L hl _ h)
  have H := Lib.hid h
  obtain ⟨A', cap', e', hcap, _⟩ := h.form
  injection e' with e1 _ e3
  subst e1 e3
  have hlt : idx L s < L.length := (List.getElem?_eq_some_iff.1 (has_at hh)).1
  rw [hh] at HA
  rw [hn] at HN
  rw [show delR L s = L.take (idx L s) ++ L.drop (idx L s + 1) by unfold delR; rw [hh]; rfl]
  clear hh h hn
  obtain ⟨i0, hi0, hz0, hz1, hz2⟩ := info_parts reg_info
  by_cases hci : cap = idx L s + 1
  case' pos => subst hci
  all_goals
    go_enter Tryz.func30, Tryz.ntmps30
    go_wp2_with (first
      | (go_at_call 48; refine (HN.out _).mono ?_; rintro e w1 ⟨rfl, rfl⟩)
      | (go_at_call 54; refine HA.out.mono ?_; rintro e w1 ⟨rfl, hb1⟩; have hr1 := H.out.below hb1; have c0 := hr1.c0; have hr1b := hr1.below ((Below.refl w1.heap.size w1).alloc (Nat.le_refl _) (.cells #[] 75)); have c01 := hr1b.c0; have ho1 := Lib.hid (World.ownsRow_lit (e := 75) (size := 4) w1 #[] 0 (Nat.le_refl _) (by unfold maxLen; omega) rfl); have HR1 := Lib.hid hr1b; have HRw := Lib.hid hr1; clear hr1 hr1b)
      | (at_builtin
         refine wpList_append_own_at _ rfl (.tmp 18) (.tmp 24) _ rfl w1.heap.size 75 i0 _ 4 48 Tryz.underlying27 hi0 hz0 hz1 hz2 rfl (by omega) (.slice (some ⟨w1.heap.size, 0, none⟩) 0 0) 0 [] rfl ho1.out ⟨g, 0, none⟩ (idx L s) _ (rcs (L.take (idx L s))) rfl
           (by rw [rcs_len, List.length_take]; congr 1; omega) (HR1.out.takeCells (by omega)) (one_rcs _) (by simp only [maxLen]; omega) (by omega) (by simp) ?_
         intro v1 w2 hown1 hg1 _ hat1
         have hB2 : Below w1.heap.size w1 w2 := ((Below.refl w1.heap.size w1).alloc (Nat.le_refl _) _).grown hg1 (by simp) (by intro k hk; simp only [Value.ownBlock, Option.some.injEq] at hk; omega)
         have HR3 := Lib.hid (HRw.out.below hB2)
         have c03 := HR3.out.c0
         have HO2 := Lib.hid hown1
         clear hown1 ho1)
      | (at_builtin
         refine wpList_append_own_at _ rfl (.tmp 27) (.tmp 34) _ rfl w1.heap.size 75 i0 _ 4 48 Tryz.underlying27 hi0 hz0 hz1 hz2 rfl (by omega) v1 (0 + idx L s) _ rfl HO2.out _ _ _ (rcs (L.drop (idx L s + 1))) rfl
           (by simp only [rcs_len, List.length_drop]; try omega) (by first | exact HR3.out.dropCells | exact drop_none (by omega)) (one_rcs _) (by simp only [maxLen]; omega) (by omega) hB2.size ?_
         intro v3 w4 hown3 hg3 _ hat3
         have hB4 : Below w1.heap.size w1 w4 := hB2.grown hg3 hB2.size (by intro k hk; rcases hat1 with e | e <;> rw [e] at hk <;> simp [Value.ownBlock] at hk <;> omega)
         have HR4 := Lib.hid (HRw.out.below hB4)
         have c04 := HR4.out.c0
         have f04 := HR4.out.blk.frozen 0
         have hv3 := Lib.hid (row2b hat1 hat3 hB2.size)
         obtain ⟨A3, c3, rfl⟩ := own_form hown3
         have HO3 := Lib.hid hown3
         clear hown3))
    go_ret
    refine ⟨rfl, RfTo.laid H.out hbw (hb1.trans (hB4.mono hb1.size)) hb1.size HO3.out hv3.out ?_ ?_ ?_⟩
    · simp only [List.nil_append]
      rw [← rcs_app]
    · simp only [List.length_append, List.length_take, List.length_drop]
      omega
    · simp only [List.length_append, List.length_take, List.length_drop]
      omega
set_option maxRecDepth 100000 in
/-- Remove, of the document's book. -/
theorem nRemove (s : ByteArray) (hs : s.size ≤ maxLen) (b x : Nat) (v : Value) (L : List Ent) (hl : L.length ≤ 500) (w : World) (h : RfAt b w x v L) (hbw : b ≤ w.heap.size) :
    Calls Tryz.prog 30 #[.pointer (some ⟨x, 0, none⟩), .string s] w fun e w' => e = .returned (.int .i64 (erI (nameB s) 6)) ∧ RfTo b w x v w' (if nameB s then delR L s else L) := by
  have HN := Lib.hid (fun w => nName s hs w)
  have HA := Lib.hid (cAt s b x v L hl _ h)
  have HS : Hid (∀ w', Below w.heap.size w w' → RfTo b w x v w' L) := Lib.hid (fun w' hb => RfTo.stay h hb)
  cases hn : nameB s
  · rw [hn] at HN
    simp only [Bool.false_eq_true, if_false]
    clear h
    go_enter Tryz.func30, Tryz.ntmps30
    go_wp2_with (go_at_call 48; refine (HN.out _).mono ?_; rintro e w1 ⟨rfl, rfl⟩)
    go_ret
    exact ⟨rfl, HS.out _ (Below.refl _ _)⟩
  · rw [if_pos rfl]
    cases hh : hasB L s
    · rw [hn] at HN
      rw [hh] at HA
      rw [show delR L s = L by unfold delR; rw [hh]; rfl]
      clear h
      go_enter Tryz.func30, Tryz.ntmps30
      go_wp2_with (first
        | (go_at_call 48; refine (HN.out _).mono ?_; rintro e w1 ⟨rfl, rfl⟩)
        | (go_at_call 54; refine HA.out.mono ?_; rintro e w1 ⟨rfl, hb1⟩))
      go_ret
      exact ⟨rfl, HS.out _ hb1⟩
    · have hlt : idx L s < L.length := (List.getElem?_eq_some_iff.1 (has_at hh)).1
      obtain ⟨A, cap, rfl, hcap, hA⟩ := h.form
      obtain ⟨g, rfl⟩ := hA (by omega)
      exact nRemoveHas s hs b x g cap L hl hn hh w h hbw
end Go.Proofs.YtaamjccffkdlhaaGreatDoor
