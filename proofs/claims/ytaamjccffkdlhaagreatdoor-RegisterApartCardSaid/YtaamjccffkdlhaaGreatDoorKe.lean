/- Walks: Move, Rename, Copy of a book. -/
import Derived.Test.YtaamjccffkdlhaaGreatDoorKd
import Derived.Shelf.SlMaps.Clone
namespace Go.Proofs.YtaamjccffkdlhaaGreatDoor
open Go.RowKit Go.Maps Go.WideMaps

def mvN (L : List Ent) (s : ByteArray) (u : Bool) : Int := if u then (getR L s).v + (getR L s).s else (getR L s).v - (getR L s).s
def mvB (L : List Ent) (s : ByteArray) (u : Bool) : Bool := nameB s && hasB L s && rngB (mvN L s u)
def mvE (L : List Ent) (s : ByteArray) (u : Bool) : Int := if nameB s then (if hasB L s then erI (rngB (mvN L s u)) 5 else 0) else 6
def mvV (L : List Ent) (s : ByteArray) (u : Bool) : Int := if mvB L s u then mvN L s u else 0
def mvL (L : List Ent) (s : ByteArray) (u : Bool) : List Ent := if mvB L s u then putR L s { getR L s with v := mvN L s u } else L
theorem set_at (m : Int) (s : ByteArray) (hs : s.size ≤ maxLen) (g bm : Nat) (L : List Ent) (hn : nameB s = true) (hh : hasB L s = true) (w : World) (h : BkAt w g bm L) :
    Calls Tryz.prog 17 #[.pointer (some ⟨g, 0, none⟩), .string s, .int .i64 m] w fun e w' => e = .returned (.int .i64 (erI (rngB m) 5)) ∧ BkAt w' g bm (if rngB m then putR L s { getR L s with v := m } else L) ∧ Turn (· = bm) w w' := by
  have := cSet m s hs g bm L w h
  have e0 : rdR L s = getR L s := by unfold rdR; rw [if_pos hn]
  have e1 : chE L s (erI (rngB m) 5) = erI (rngB m) 5 := by
    unfold chE
    rw [hn, if_pos rfl, hh]
    cases rngB m <;> rfl
  have e2 : chL L s (erI (rngB m) 5) { rdR L s with v := m } = if rngB m then putR L s { getR L s with v := m } else L := by
    unfold chL
    rw [hn, hh, e0]
    cases rngB m <;> rfl
  rw [e1, e2] at this
  exact this
set_option maxRecDepth 100000 in
set_option maxHeartbeats 1000000 in
/-- Move, of a book. -/
theorem cMove (s : ByteArray) (hs : s.size ≤ maxLen) (u : Bool) (g bm : Nat) (L : List Ent) (w : World) (h : BkAt w g bm L) :
    Calls Tryz.prog 16 #[.pointer (some ⟨g, 0, none⟩), .string s, .bool u] w fun e w' => e = .returned (.tuple #[.int .i64 (mvV L s u), .int .i64 (mvE L s u)]) ∧ BkAt w' g bm (mvL L s u) ∧ Turn (· = bm) w w' := by
  have HR := Lib.hid (cRead s hs g bm L w h)
  have HK := Lib.hid h
  have HG := Lib.hid h.good
  clear h
  cases hn : nameB s
  · have e1 : mvV L s u = 0 := by unfold mvV mvB; rw [hn]; rfl
    have e2 : mvE L s u = 6 := by unfold mvE; rw [hn]; rfl
    have e3 : mvL L s u = L := by unfold mvL mvB; rw [hn]; rfl
    rw [e1, e2, e3]
    clear e1 e2 e3
    rw [hn] at HR
    generalize rdR L s = R at HR
    go_enter Tryz.func16, Tryz.ntmps16
    go_wp2_with (go_at_call 35; refine HR.out.mono ?_; rintro e w1 ⟨rfl, hb1⟩; unfold erI)
    go_ret2
    have hb2 := hb1.alloc hb1.size (.cells #[.int .i64 R.v, .int .i64 R.s, .string R.f] 60)
    exact ⟨rfl, HK.out.below hb2, Turn.of_below hb2⟩
  · have e0 : rdR L s = getR L s := by unfold rdR; rw [if_pos hn]
    rw [hn, e0] at HR
    clear e0
    cases hh : hasB L s
    · have e1 : mvV L s u = 0 := by unfold mvV mvB; rw [hn, hh]; rfl
      have e2 : mvE L s u = 0 := by unfold mvE; rw [hn, hh]; rfl
      have e3 : mvL L s u = L := by unfold mvL mvB; rw [hn, hh]; rfl
      rw [e1, e2, e3]
      clear e1 e2 e3
      generalize getR L s = R at HR
      go_enter Tryz.func16, Tryz.ntmps16
      go_wp2_with (first
        | (go_at_call 35; refine HR.out.mono ?_; rintro e w1 ⟨rfl, hb1⟩; unfold erI; have hB2 := Lib.hid (hb1.alloc hb1.size (.cells #[.int .i64 R.v, .int .i64 R.s, .string R.f] 60)); have hbk2 := Lib.hid (HK.out.below hB2.out))
        | (go_at_call 22; refine (cHas s hs g bm L _ hbk2.out).mono ?_; rintro e w3 ⟨rfl, hb3⟩; rw [hh]))
      go_ret2
      have hb4 := ntrans hB2.out hb3
      exact ⟨rfl, HK.out.below hb4, Turn.of_below hb4⟩
    · have hgd := good_get HG.out hn
      have hv1 := (rngB_iff.1 hgd.2.1).1
      have hv2 := (rngB_iff.1 hgd.2.1).2
      have hs1 := (rngB_iff.1 hgd.2.2.1).1
      have hs2 := (rngB_iff.1 hgd.2.2.1).2
      simp only at hv1 hv2 hs1 hs2
      have e3 : mvL L s u = if rngB (mvN L s u) then putR L s { getR L s with v := mvN L s u } else L := by unfold mvL mvB; rw [hn, hh]; rfl
      have e1 : mvV L s u = if rngB (mvN L s u) then mvN L s u else 0 := by unfold mvV mvB; rw [hn, hh]; rfl
      have e2 : mvE L s u = erI (rngB (mvN L s u)) 5 := by unfold mvE; rw [hn, hh]; rfl
      rw [e1, e2, e3]
      clear e1 e2 e3 hgd
      have HSt := Lib.hid (fun w hk => set_at (mvN L s u) s hs g bm L hn hh w hk)
      have hm : mvN L s u = if u then (getR L s).v + (getR L s).s else (getR L s).v - (getR L s).s := rfl
      obtain ⟨LL, hLL⟩ : ∃ LL, LL = if rngB (mvN L s u) then putR L s { getR L s with v := mvN L s u } else L := ⟨_, rfl⟩
      rw [← hLL] at HSt ⊢
      clear hLL
      generalize mvN L s u = m at HSt hm ⊢
      generalize getR L s = R at HR hm hv1 hv2 hs1 hs2
      cases hr : rngB m
      all_goals
        rw [hr] at HSt
        cases u
        all_goals
          simp only [Bool.false_eq_true, if_false, if_true] at hm ⊢
          subst hm
          clear hr
          have hR1 := hv1
          have hR2 := hv2
          go_enter Tryz.func16, Tryz.ntmps16
          go_wp2_with (first
            | (go_at_call 35; refine HR.out.mono ?_; rintro e w1 ⟨rfl, hb1⟩; unfold erI; have hB2 := Lib.hid (hb1.alloc hb1.size (.cells #[.int .i64 R.v, .int .i64 R.s, .string R.f] 60)); have hbk2 := Lib.hid (HK.out.below hB2.out); have hr2 := Lib.hid (Blk.new w1 60 #[.int .i64 R.v, .int .i64 R.s, .string R.f]))
            | (go_at_call 22; refine (cHas s hs g bm L _ hbk2.out).mono ?_; rintro e w3 ⟨rfl, hb3⟩; rw [hh]; have hbk3 := Lib.hid (hbk2.out.below hb3); have hr3 := hr2.out.below hb3 (by simp); have d0 := hr3.cell 0; have d1 := hr3.cell 1; have HR3 := Lib.hid hr3; clear hr3; simp only [List.getElem?_toArray, List.getElem?_cons_zero, List.getElem?_cons_succ] at d0 d1)
            | (go_at_call 17; refine (HSt.out _ hbk3.out).mono ?_; rintro e w4 ⟨rfl, hk4, hT4⟩; unfold erI))
          go_ret2
          exact ⟨rfl, hk4, ((Turn.of_below (ntrans hB2.out hb3)) : Turn (· = bm) w w3).trans hT4 (fun _ _ h => h)⟩
/-- Copy, of a book. -/
theorem cCopy (g bm : Nat) (L : List Ent) (w : World) (h : BkAt w g bm L) :
    Calls Tryz.prog 11 #[.pointer (some ⟨g, 0, none⟩)] w fun e w' => ∃ g' bm', e = .returned (.pointer (some ⟨g', 0, none⟩)) ∧ w.heap.size ≤ g' ∧ w.heap.size ≤ bm' ∧ BkAt w' g' bm' L ∧ Below w.heap.size w w' := by
  have c0 := h.c0
  have HK := Lib.hid h
  have HC := Lib.hid (AnyW.maps_Clone_owns Tryz.cloneL 9 RR bm L.length (DB L) w h.own)
  have qm := fun (w : World) => run_eql_map_nil (P := Tryz.prog) w 54 _ _ (some bm) Tryz.underlying54
  clear h
  go_enter Tryz.func11, Tryz.ntmps11
  go_wp2_with (go_at_call 34; refine HC.out.mono ?_; rintro e w1 ⟨rfl, ho1, ho2, hb1⟩)
  go_ret
  have hlt := ho1.lt
  refine ⟨_, w.heap.size, rfl, hb1.size, Nat.le_refl _, ⟨Blk.new w1 56 #[.map (some w.heap.size)], ho1.alloc _, HK.out.srt, HK.out.len, HK.out.good⟩, hb1.alloc hb1.size _⟩
end Go.Proofs.YtaamjccffkdlhaaGreatDoor
