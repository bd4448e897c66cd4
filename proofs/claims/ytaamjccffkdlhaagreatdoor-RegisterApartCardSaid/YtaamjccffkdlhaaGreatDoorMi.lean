/- Walks: the document's Move, Copy. -/
import Derived.Test.YtaamjccffkdlhaaGreatDoorMh
import Derived.Test.YtaamjccffkdlhaaGreatDoorKg
namespace Go.Proofs.YtaamjccffkdlhaaGreatDoor
open Go.RowKit Go.Maps Go.WideMaps Go.Joins

theorem own_lt {b n size : Nat} {t : TypeId} {v : Value} {xs : List Value} {w : World} (h : w.ownsRow b t size v n xs) {g : Nat} (hg : v.ownBlock = some g) : g < w.heap.size := by
  rcases h.2 with ⟨rfl, _⟩ | ⟨g', cap, cur, rfl, _, hh, _⟩
  · cases hg
  · injection hg with hg
    simp only at hg
    subst hg
    rcases Nat.lt_or_ge g' w.heap.size with h | h
    · exact h
    · rw [Array.getElem?_eq_none h] at hh; cases hh
/-- put, at a new block, which stays. -/
theorem nPutAtB (s : ByteArray) (r : Reg) (b x : Nat) (v : Value) (L : List Ent) (hl : L.length ≤ 500) (w w1 : World) (h : RfAt b w x v L) (hbw : b ≤ w.heap.size) (hb1 : Below w.heap.size w w1) (cs : Array Value) (t : TypeId) :
    Calls Tryz.prog 51 #[.pointer (some ⟨x, 0, none⟩), rVal s r] (w1.alloc (.cells cs t)) fun e w' => e = .returned (.int .i64 (putE L s)) ∧ RfTo b w x v w' (putL L s r) ∧ Blk w' w1.heap.size t cs := by
  have hb2 := hb1.alloc hb1.size (.cells cs t)
  refine (nPut s r b x v L hl _ (h.below hb2) (Nat.le_trans hbw hb2.size)).mono ?_
  rintro e w' ⟨rfl, ht⟩
  refine ⟨rfl, ht.then_ hb2 h.blk.lt, ?_⟩
  obtain ⟨_, _, _, hT⟩ := ht
  refine hT.blk (Blk.new w1 t cs) ?_
  have hx := h.blk.lt
  have hs := hb1.size
  rintro (e | e)
  · omega
  · have := own_lt h.own e
    omega
theorem mv_up {L : List Ent} {s : ByteArray} : mvN L s true = (getR L s).v + (getR L s).s := rfl
theorem mv_dn {L : List Ent} {s : ByteArray} : mvN L s false = (getR L s).v + -(getR L s).s := by
  show (getR L s).v - (getR L s).s = _
  omega
set_option maxRecDepth 100000 in
set_option maxHeartbeats 1000000 in
/-- Move, of the document's book. -/
theorem nMove (s : ByteArray) (hs : s.size ≤ maxLen) (u : Bool) (b x : Nat) (v : Value) (L : List Ent) (hl : L.length ≤ 500) (hg : ∀ p ∈ L, goodR p) (w : World) (h : RfAt b w x v L) (hbw : b ≤ w.heap.size) :
    Calls Tryz.prog 29 #[.pointer (some ⟨x, 0, none⟩), .string s, .bool u] w fun e w' => e = .returned (.tuple #[.int .i64 (mvV L s u), .int .i64 (mvE L s u)]) ∧ RfTo b w x v w' (mvL L s u) := by
  have HN := Lib.hid (fun w => nName s hs w)
  have HH := Lib.hid (nHas s b x v L hl w h)
  have H := Lib.hid h
  have HS : Hid (∀ w', Below w.heap.size w w' → RfTo b w x v w' L) := Lib.hid (fun w' hb => RfTo.stay H.out hb)
  clear h
  cases hn : nameB s
  · have e1 : mvV L s u = 0 := by unfold mvV mvB; rw [hn]; rfl
    have e2 : mvE L s u = 6 := by unfold mvE; rw [hn]; rfl
    have e3 : mvL L s u = L := by unfold mvL mvB; rw [hn]; rfl
    rw [e1, e2, e3]
    clear e1 e2 e3
    rw [hn] at HN
    go_enter Tryz.func29, Tryz.ntmps29
    go_wp2_with (go_at_call 48; refine (HN.out _).mono ?_; rintro e w1 ⟨rfl, rfl⟩)
    go_ret2
    exact ⟨rfl, HS.out _ (Below.refl _ _)⟩
  · rw [hn] at HN
    cases hh : hasB L s
    · have e1 : mvV L s u = 0 := by unfold mvV mvB; rw [hn, hh]; rfl
      have e2 : mvE L s u = 0 := by unfold mvE; rw [hn, hh]; rfl
      have e3 : mvL L s u = L := by unfold mvL mvB; rw [hn, hh]; rfl
      rw [e1, e2, e3]
      clear e1 e2 e3
      rw [hh] at HH
      go_enter Tryz.func29, Tryz.ntmps29
      go_wp2_with (first
        | (go_at_call 48; refine (HN.out _).mono ?_; rintro e w1 ⟨rfl, rfl⟩)
        | (go_at_call 53; refine HH.out.mono ?_; rintro e w1 ⟨rfl, hb1⟩))
      go_ret2
      exact ⟨rfl, HS.out _ hb1⟩
    · have hgd := good_get hg hn
      have hv1 := (rngB_iff.1 hgd.2.1).1
      have hv2 := (rngB_iff.1 hgd.2.1).2
      have hs1 := (rngB_iff.1 hgd.2.2.1).1
      have hs2 := (rngB_iff.1 hgd.2.2.1).2
      simp only at hv1 hv2 hs1 hs2
      have e3 : mvL L s u = if rngB (mvN L s u) then putR L s { getR L s with v := mvN L s u } else L := by unfold mvL mvB; rw [hn, hh]; rfl
      have e1 : mvV L s u = if rngB (mvN L s u) then mvN L s u else 0 := by unfold mvV mvB; rw [hn, hh]; rfl
      have e2 : mvE L s u = erI (rngB (mvN L s u)) 5 := by unfold mvE; rw [hn, hh]; rfl
      rw [e1, e2, e3]
      clear e1 e2 e3 hgd
      rw [hh] at HH
      have HGw := Lib.hid (fun w1 (hb1 : Below w.heap.size w w1) => nGet s b x v L hl w1 (H.out.below hb1))
      have hp1 : putE L s = 0 := by unfold putE; rw [hh]; rfl
      have hp2 : ∀ r, putL L s r = putR L s r := fun r => by unfold putL; rw [hh]; rfl
      have HP := Lib.hid (fun r w1 hb1 cs t => nPutAtB s r b x v L hl w w1 H.out hbw hb1 cs t)
      rw [hp1] at HP
      simp only [hp2] at HP
      have HF := Lib.hid (fun n w => nFit n w)
      have hm1 := @mv_up L s
      have hm2 := @mv_dn L s
      clear hp1 hp2
      cases u
      · clear hm1
        rw [hm2]
        clear hm2
        generalize getR L s = R at HGw hv1 hv2 hs1 hs2 HP ⊢
        unfold rVal at HGw HP
        cases hr : rngB (R.v + -R.s)
        all_goals
          go_enter Tryz.func29, Tryz.ntmps29
          go_wp2_with (first
            | (go_at_call 48; refine (HN.out _).mono ?_; rintro e w1 ⟨rfl, rfl⟩)
            | (go_at_call 53; refine HH.out.mono ?_; rintro e w1 ⟨rfl, hb1⟩)
            | (go_at_call 50; refine (HGw.out _ hb1).mono ?_; rintro e w2 ⟨rfl, hb2⟩; have hb3 := Lib.hid (ntrans hb1 hb2))
            | (go_at_call 49; refine (HF.out _ _).mono ?_; rintro e w3 ⟨rfl, rfl⟩; rw [hr])
            | (go_at_call 51; refine (HP.out ⟨R.v + -R.s, R.s, R.f⟩ _ hb3.out _ _).mono ?_; rintro e w4 ⟨rfl, ht, hz⟩; have d1 := hz.cell 1; simp only [List.getElem?_toArray, List.getElem?_cons_zero, List.getElem?_cons_succ] at d1))
          go_ret2
          first
          | exact ⟨rfl, ht⟩
          | exact ⟨rfl, HS.out _ (hb3.out.alloc hb3.out.size _)⟩
      · clear hm2
        rw [hm1]
        clear hm1
        generalize getR L s = R at HGw hv1 hv2 hs1 hs2 HP ⊢
        unfold rVal at HGw HP
        cases hr : rngB (R.v + R.s)
        all_goals
          go_enter Tryz.func29, Tryz.ntmps29
          go_wp2_with (first
            | (go_at_call 48; refine (HN.out _).mono ?_; rintro e w1 ⟨rfl, rfl⟩)
            | (go_at_call 53; refine HH.out.mono ?_; rintro e w1 ⟨rfl, hb1⟩)
            | (go_at_call 50; refine (HGw.out _ hb1).mono ?_; rintro e w2 ⟨rfl, hb2⟩; have hb3 := Lib.hid (ntrans hb1 hb2))
            | (go_at_call 49; refine (HF.out _ _).mono ?_; rintro e w3 ⟨rfl, rfl⟩; rw [hr])
            | (go_at_call 51; refine (HP.out ⟨R.v + R.s, R.s, R.f⟩ _ hb3.out _ _).mono ?_; rintro e w4 ⟨rfl, ht, hz⟩; have d1 := hz.cell 1; simp only [List.getElem?_toArray, List.getElem?_cons_zero, List.getElem?_cons_succ] at d1))
          go_ret2
          first
          | exact ⟨rfl, ht⟩
          | exact ⟨rfl, HS.out _ (hb3.out.alloc hb3.out.size _)⟩
/-- Copy, of the document's book. -/
theorem nCopy (b x : Nat) (v : Value) (L : List Ent) (hl : L.length ≤ 500) (w : World) (h : RfAt b w x v L) (_hbw : b ≤ w.heap.size) :
    Calls Tryz.prog 12 #[.pointer (some ⟨x, 0, none⟩)] w fun e w' => ∃ x' v', e = .returned (.pointer (some ⟨x', 0, none⟩)) ∧ w.heap.size ≤ x' ∧ RfAt w.heap.size w' x' v' L ∧ Below w.heap.size w w' := by
  obtain ⟨i0, hi0, hz0, hz1, hz2⟩ := info_parts reg_info
  have hb0 : Below w.heap.size w (w.alloc (.cells #[] 75)) := (Below.refl _ _).alloc (Nat.le_refl _) _
  have h0 := h.below hb0
  have c0 := h0.c0
  have ho1 := Lib.hid (World.ownsRow_lit (e := 75) (size := 4) w #[] 0 (Nat.le_refl _) (by unfold maxLen; omega) rfl)
  rcases h.own.2 with ⟨rfl, e⟩ | ⟨g, cap, cur, rfl, _⟩
  · have hL : L = [] := List.length_eq_zero_iff.1 e
    subst hL
    have H0 := Lib.hid h0
    clear h h0
    go_enter Tryz.func12, Tryz.ntmps12
    go_wp2_with (at_builtin; refine wpList_append_own_none rfl (.tmp 3) (.tmp 7) _ rfl w.heap.size 75 i0 4 Tryz.underlying27 hi0 _ 0 [] rfl ho1.out rfl ?_)
    go_ret
    have hk : Blk ((w.alloc (.cells #[] 75)).alloc (.cells #[.slice (some ⟨w.heap.size, 0, none⟩) 0 0] 29)) (w.heap.size + 1) 29 #[.slice (some ⟨w.heap.size, 0, none⟩) 0 0] := by
      have := Blk.new (w.alloc (.cells #[] 75)) 29 #[.slice (some ⟨w.heap.size, 0, none⟩) 0 0]
      simpa using this
    exact ⟨_, rfl, Nat.le_succ _, ⟨_, ⟨hk, ho1.out.alloc _⟩⟩, hb0.alloc hb0.size _⟩
  · have H0 := Lib.hid h0
    clear h h0
    go_enter Tryz.func12, Tryz.ntmps12
    go_wp2_with (at_builtin
                 refine wpList_append_own_at _ rfl (.tmp 3) (.tmp 7) _ rfl w.heap.size 75 i0 _ 4 48 Tryz.underlying27 hi0 hz0 hz1 hz2 rfl (by omega) (.slice (some ⟨w.heap.size, 0, none⟩) 0 0) 0 [] rfl ho1.out ⟨g, 0, none⟩ L.length _ (rcs L) rfl
                   (rcs_len L) (by have := H0.out.takeCells (Nat.le_refl _); rwa [List.take_length] at this) (one_rcs _) (by simp only [maxLen]; omega) (by omega) (by simp) ?_
                 intro v1 w2 hown1 hg1 _ hat1
                 obtain ⟨A3, c3, rfl⟩ := own_form hown1
                 have HO3 := Lib.hid hown1
                 clear hown1)
    go_ret
    have hB2 : Below w.heap.size w w2 := hb0.grown hg1 hb0.size (fun k hk => by injection hk with hk; exact Nat.le_of_eq hk)
    have ho := HO3.out.alloc (.cells #[.slice A3 L.length c3] 29)
    rw [Nat.zero_add, List.nil_append] at ho
    exact ⟨_, rfl, hB2.size, ⟨_, ⟨Blk.new _ 29 _, ho⟩⟩, hB2.alloc hB2.size _⟩
end Go.Proofs.YtaamjccffkdlhaaGreatDoor
