/- Walk: Rename of a book. -/
import Derived.Test.YtaamjccffkdlhaaGreatDoorKe
namespace Go.Proofs.YtaamjccffkdlhaaGreatDoor
open Go.RowKit Go.Maps Go.WideMaps

def rnB (L : List Ent) (s t : ByteArray) : Bool := nameB s && hasB L s && nameB t
def rnE (L : List Ent) (s t : ByteArray) : Int := erI (rnB L s t) 6
def rnL (L : List Ent) (s t : ByteArray) : List Ent := if rnB L s t then putR (delR L s) t (getR L s) else L
theorem len_del_has {L : List Ent} {s : ByteArray} (h : hasB L s = true) : (delR L s).length + 1 = L.length := by
  have hlt : idx L s < L.length := by
    unfold hasB at h
    rcases Nat.lt_or_ge (idx L s) L.length with hh | hh
    · exact hh
    · rw [List.getElem?_eq_none hh] at h; cases h
  unfold delR
  rw [if_pos h, List.length_append, List.length_take, List.length_drop]
  omega
set_option maxRecDepth 100000 in
set_option maxHeartbeats 1000000 in
/-- Rename, of a book. -/
theorem cRename (s t : ByteArray) (hs : s.size ≤ maxLen) (ht : t.size ≤ maxLen) (g bm : Nat) (L : List Ent) (w : World) (h : BkAt w g bm L) :
    Calls Tryz.prog 21 #[.pointer (some ⟨g, 0, none⟩), .string s, .string t] w fun e w' => e = .returned (.int .i64 (rnE L s t)) ∧ BkAt w' g bm (rnL L s t) ∧ Turn (· = bm) w w' := by
  have HR := Lib.hid (cRead s hs g bm L w h)
  have HK := Lib.hid h
  have HT := Lib.hid (fun w => cName t ht w)
  clear h
  cases hn : nameB s
  · have e1 : rnE L s t = 6 := by unfold rnE rnB; rw [hn]; rfl
    have e3 : rnL L s t = L := by unfold rnL rnB; rw [hn]; rfl
    rw [e1, e3]
    clear e1 e3
    rw [hn] at HR
    generalize rdR L s = R at HR
    go_enter Tryz.func21, Tryz.ntmps21
    go_wp2_with (go_at_call 35; refine HR.out.mono ?_; rintro e w1 ⟨rfl, hb1⟩; unfold erI)
    go_ret
    have hb2 := hb1.alloc hb1.size (.cells #[.int .i64 R.v, .int .i64 R.s, .string R.f] 60)
    exact ⟨rfl, HK.out.below hb2, Turn.of_below hb2⟩
  · have e0 : rdR L s = getR L s := by unfold rdR; rw [if_pos hn]
    rw [hn, e0] at HR
    clear e0
    cases hh : hasB L s
    · have e1 : rnE L s t = 6 := by unfold rnE rnB; rw [hn, hh]; rfl
      have e3 : rnL L s t = L := by unfold rnL rnB; rw [hn, hh]; rfl
      rw [e1, e3]
      clear e1 e3
      generalize getR L s = R at HR
      go_enter Tryz.func21, Tryz.ntmps21
      go_wp2_with (first
        | (go_at_call 35; refine HR.out.mono ?_; rintro e w1 ⟨rfl, hb1⟩; unfold erI; have hB2 := Lib.hid (hb1.alloc hb1.size (.cells #[.int .i64 R.v, .int .i64 R.s, .string R.f] 60)); have hbk2 := Lib.hid (HK.out.below hB2.out))
        | (go_at_call 22; refine (cHas s hs g bm L _ hbk2.out).mono ?_; rintro e w3 ⟨rfl, hb3⟩; rw [hh]))
      go_ret
      have hb4 := ntrans hB2.out hb3
      exact ⟨rfl, HK.out.below hb4, Turn.of_below hb4⟩
    · cases hnt : nameB t
      · have e1 : rnE L s t = 6 := by unfold rnE rnB; rw [hn, hh, hnt]; rfl
        have e3 : rnL L s t = L := by unfold rnL rnB; rw [hn, hh, hnt]; rfl
        rw [e1, e3]
        clear e1 e3
        rw [hnt] at HT
        generalize getR L s = R at HR
        go_enter Tryz.func21, Tryz.ntmps21
        go_wp2_with (first
          | (go_at_call 35; refine HR.out.mono ?_; rintro e w1 ⟨rfl, hb1⟩; unfold erI; have hB2 := Lib.hid (hb1.alloc hb1.size (.cells #[.int .i64 R.v, .int .i64 R.s, .string R.f] 60)); have hbk2 := Lib.hid (HK.out.below hB2.out))
          | (go_at_call 22; refine (cHas s hs g bm L _ hbk2.out).mono ?_; rintro e w3 ⟨rfl, hb3⟩; rw [hh])
          | (go_at_call 43; refine (HT.out _).mono ?_; rintro e w4 ⟨rfl, rfl⟩))
        go_ret
        have hb4 := ntrans hB2.out hb3
        exact ⟨rfl, HK.out.below hb4, Turn.of_below hb4⟩
      · have e1 : rnE L s t = 0 := by unfold rnE rnB; rw [hn, hh, hnt]; rfl
        have e3 : rnL L s t = putR (delR L s) t (getR L s) := by unfold rnL rnB; rw [hn, hh, hnt]; rfl
        rw [e1, e3]
        clear e1 e3
        rw [hnt] at HT
        have hgd := good_get HK.out.good hn
        have HGd : Hid (goodR (t, getR L s)) := Lib.hid ⟨hnt, hgd.2.1, hgd.2.2.1, hgd.2.2.2⟩
        have hlen := HK.out.len
        have HLd := Lib.hid (len_del_has hh)
        clear hgd
        generalize getR L s = R at HR HGd ⊢
        go_enter Tryz.func21, Tryz.ntmps21
        go_wp2_with (first
          | (go_at_call 35; refine HR.out.mono ?_; rintro e w1 ⟨rfl, hb1⟩; unfold erI; have hB2 := Lib.hid (hb1.alloc hb1.size (.cells #[.int .i64 R.v, .int .i64 R.s, .string R.f] 60)); have hbk2 := Lib.hid (HK.out.below hB2.out); have hr2 := Lib.hid (Blk.new w1 60 #[.int .i64 R.v, .int .i64 R.s, .string R.f]))
          | (go_at_call 22; refine (cHas s hs g bm L _ hbk2.out).mono ?_; rintro e w3 ⟨rfl, hb3⟩; rw [hh]; have hbk3 := Lib.hid (hbk2.out.below hb3); have hr3 := Lib.hid (hr2.out.below hb3 (by simp)); have c03 := hbk3.out.c0; have hown3 := hbk3.out.own)
          | (go_at_call 43; refine (HT.out _).mono ?_; rintro e w4 ⟨rfl, rfl⟩)
          | (at_delete; refine wpList_delete_own _ rfl _ _ 54 9 rfl 60 law Tryz.underlying54 RR bm L.length (DB L) rfl hown3 (.string s) (kOf s) rfl (keyOf_string_mk Tryz.underlying9 hs) ?_; intro w5 ho5 ht5; have hbk5 := Lib.hid (hbk3.out.del ho5 ht5.grown); have hg5 := Lib.hid ht5.grown; have c05 := hbk5.out.c0; clear ho5 ht5))
        have hne1 : w1.heap.size ≠ bm := hbk3.out.ne_blk hr3.out
        have hr5 := hr3.out.grown hg5.out (fun e => hne1 (by injection e))
        have d0 := hr5.cell 0
        have d1 := hr5.cell 1
        have d2 := hr5.cell 2
        simp only [List.getElem?_toArray, List.getElem?_cons_zero, List.getElem?_cons_succ] at d0 d1 d2
        have hbk6 := Lib.hid (hbk5.out.below ((Below.refl w5.heap.size w5).drew))
        have t1 : Turn (· = bm) w w5 := ((Turn.of_below (ntrans hB2.out hb3)) : Turn (· = bm) w _).trans (Turn.of_grown hg5.out) (fun _ _ h => h)
        have t3 := Lib.hid ((t1.trans (S2 := fun _ => False) (Turn.of_below ((Below.refl _ _).drew)) (fun _ _ h => h.elim)) : Turn (· = bm) w w5.drew)
        clear t1 hr5 hne1 hown3
        go_still_tail 6, (by kernel_rfl)
        change wpList _ _ _ _ _ w5.drew
        have hown6 := hbk6.out.own
        have hl6 : (delR L s).length < 500 := by have := HLd.out; omega
        go_wp2_with (at_mapUpdate; refine wpList_mapUpdate_own _ rfl _ _ _ 54 rfl 9 60 law Tryz.underlying54 RR bm (delR L s).length (DB (delR L s)) rfl hown6 (by unfold maxLen; omega) (.string t) (.agg #[.int .i64 R.v, .int .i64 R.s, .string R.f]) (kOf t) rfl rfl (keyOf_string_mk Tryz.underlying9 ht) (.held (.agg #[.int .i64 R.v, .int .i64 R.s, .string R.f])) [] rfl ?_; intro w7 ho7 hg7)
        go_ret
        exact ⟨rfl, hbk6.out.put ho7 hg7 (.inr hl6) HGd.out, t3.out.trans (Turn.of_grown hg7) (fun _ _ h => h)⟩
end Go.Proofs.YtaamjccffkdlhaaGreatDoor
