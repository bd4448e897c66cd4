/- Walks: how a book is read and changed. -/
import Derived.Test.YtaamjccffkdlhaaGreatDoorKa
import Derived.StillTailTactics
namespace Go.Proofs.YtaamjccffkdlhaaGreatDoor
open Go.RowKit Go.Maps Go.WideMaps

/-- What read hands back. -/
def rdR (L : List Ent) (s : ByteArray) : Reg := if nameB s then getR L s else ⟨0, 0, ⟨#[]⟩⟩
theorem rdR_has {L : List Ent} {s : ByteArray} (hn : nameB s = true) (h : hasB L s = true) : rgOr L s = rdR L s := by unfold rgOr rdR; rw [if_pos h, if_pos hn]
theorem rdR_no {L : List Ent} {s : ByteArray} (hn : nameB s = true) (h : hasB L s = false) : rdR L s = zeroReg := by unfold rdR; rw [if_pos hn, get_miss h]
theorem rdR_bad {L : List Ent} {s : ByteArray} (hn : nameB s = false) : rdR L s = ⟨0, 0, ⟨#[]⟩⟩ := by unfold rdR; rw [hn]; rfl
set_option maxHeartbeats 400000 in
/-- read, of a book. -/
theorem cRead (s : ByteArray) (hs : s.size ≤ maxLen) (g bm : Nat) (L : List Ent) (w : World) (h : BkAt w g bm L) :
    Calls Tryz.prog 35 #[.pointer (some ⟨g, 0, none⟩), .string s] w fun e w' => e = .returned (.tuple #[.agg #[.int .i64 (rdR L s).v, .int .i64 (rdR L s).s, .string (rdR L s).f], .int .i64 (erI (nameB s) 6)]) ∧ Below w.heap.size w w' := by
  have hk0 := h.below ((Below.refl w.heap.size w).alloc (Nat.le_refl _) (.cells #[.int .i64 0, .int .i64 0, .string ⟨#[]⟩] 60))
  have c0 := hk0.c0
  have HC := Lib.hid (cCheck s hs g bm _ c0)
  have hown := hk0.own
  have HS := Lib.hid h.srt
  clear h hk0
  cases hn : nameB s
  · rw [hn] at HC
    have hr := rdR_bad (L := L) hn
    rw [hr]
    clear hr
    go_enter Tryz.func35, Tryz.ntmps35
    go_wp2_with (go_at_call 42; refine HC.out.mono ?_; rintro e w1 ⟨rfl, rfl⟩; unfold erI)
    exact bodyPost_ret (v := .tuple #[.agg #[.int .i64 0, .int .i64 0, .string ⟨#[]⟩], .int .i64 6]) (by simp [results, Tryz.results35, go_sem]) rfl ⟨rfl, (Below.refl _ _).alloc (Nat.le_refl _) _⟩
  · rw [hn] at HC
    cases hh : hasB L s
    · have hr := rdR_no hn hh
      rw [hr]
      have hb2 : hasB L s = false := hh
      clear hr hh
      go_enter Tryz.func35, Tryz.ntmps35
      go_wp2_with (first
        | (go_at_call 42; refine HC.out.mono ?_; rintro e w1 ⟨rfl, rfl⟩; unfold erI)
        | (at_lookup; refine wpList_look _ rfl _ _ rfl bm L.length L rfl hown HS.out s hs rfl ?_; rw [hb2]))
      exact bodyPost_ret (v := .tuple #[.agg #[.int .i64 0, .int .i64 0, .string ⟨#[48]⟩], .int .i64 0]) (by simp [results, Tryz.results35, go_sem]) rfl ⟨rfl, by first | exact (((Below.refl _ _).alloc (Nat.le_refl _) _).alloc (by simp) _).setCell (by simp) _ | exact ((Below.refl _ _).alloc (Nat.le_refl _) _).alloc (by simp) _⟩
    · have hr := rdR_has hn hh
      rw [← hr]
      have hb2 : hasB L s = true := hh
      clear hr hh
      obtain ⟨R, hR⟩ : ∃ R, R = rgOr L s := ⟨_, rfl⟩
      rw [← hR]
      have HR := Lib.hid hR.symm
      clear hR
      go_enter Tryz.func35, Tryz.ntmps35
      go_wp2_with (first
        | (go_at_call 42; refine HC.out.mono ?_; rintro e w1 ⟨rfl, rfl⟩; unfold erI)
        | (at_lookup; refine wpList_look _ rfl _ _ rfl bm L.length L rfl hown HS.out s hs rfl ?_; rw [hb2, HR.out]))
      exact bodyPost_ret (v := .tuple #[.agg #[.int .i64 R.v, .int .i64 R.s, .string R.f], .int .i64 0]) (by simp [results, Tryz.results35, go_sem]) rfl ⟨rfl, by first | exact (((Below.refl _ _).alloc (Nat.le_refl _) _).alloc (by simp) _).setCell (by simp) _ | exact ((Below.refl _ _).alloc (Nat.le_refl _) _).alloc (by simp) _⟩
theorem zeroReg_good {s : ByteArray} (hn : nameB s = true) : goodR (s, zeroReg) := ⟨hn, show rngB 0 = true by decide, show rngB 0 = true by decide, show fmtB ⟨#[48]⟩ = true by decide⟩
theorem good_get {L : List Ent} (hg : ∀ p ∈ L, goodR p) {s : ByteArray} (hn : nameB s = true) : goodR (s, getR L s) := by
  unfold getR
  split
  · rename_i p hp
    split
    · rename_i e
      have := hg p (List.mem_of_getElem? hp)
      exact ⟨hn, this.2.1, this.2.2.1, this.2.2.2⟩
    · exact zeroReg_good hn
  · exact zeroReg_good hn
theorem good_put {L : List Ent} (hg : ∀ p ∈ L, goodR p) {s : ByteArray} {r : Reg} (h : goodR (s, r)) : ∀ p ∈ putR L s r, goodR p := fun p hp => by
  rcases mem_put hp with rfl | hp
  · exact h
  · exact hg p hp
/-- What a change answers, and what it leaves. -/
def chE (L : List Ent) (s : ByteArray) (k : Int) : Int := if nameB s then (if k = 0 then (if hasB L s || decide (L.length < 500) then 0 else 9) else k) else 6
def chL (L : List Ent) (s : ByteArray) (k : Int) (r : Reg) : List Ent := if nameB s && decide (k = 0) && (hasB L s || decide (L.length < 500)) then putR L s r else L
theorem BkAt.ne_blk {w : World} {g bm : Nat} {L : List Ent} (h : BkAt w g bm L) {g' : Nat} {t : TypeId} {cs : Array Value} (hb : Blk w g' t cs) : g' ≠ bm := map_ne_cells hb h.own
theorem lenB {w : World} {g bm : Nat} {L : List Ent} (h : BkAt w g bm L) (ty : TypeId) : (Builtin.len_ #[54] ty #[.map (some bm)]).run Tryz.prog w = .ok (.int .i64 (L.length : Nat)) w := by
  have := h.own.len (t := 54) Tryz.underlying54 ty
  rw [size_DB] at this
  exact this
theorem blk_ne {w : World} {g g' : Nat} {t t' : TypeId} {cs cs' : Array Value} (h : Blk w g t cs) (h' : Blk w g' t' cs') (hne : t ≠ t') : g ≠ g' := by
  rintro rfl
  unfold Blk at h h'
  rw [h] at h'
  injection h' with h'
  injection h' with _ ht
  exact hne ht
/-- A book after a store. -/
theorem BkAt.put {w w' : World} {g bm n : Nat} {L : List Ent} {s : ByteArray} {r : Reg} (h : BkAt w g bm L) (ho : w'.ownsMap Tryz.prog 9 RR bm n ((DB L).put (kOf s) (.held (regVal r)))) (hg : w.grownBy w' (some bm))
    (hl : hasB L s = true ∨ L.length < 500) (hr : goodR (s, r)) : BkAt w' g bm (putR L s r) := by
  refine ⟨h.blk.grown hg (fun e => h.ne (by injection e)), ?_, h.srt.put, ?_, good_put h.good hr⟩
  · rw [put_DB h.srt] at ho
    have := ownsMap_tight ho
    rwa [size_DB] at this
  · rw [len_put]
    have := h.len
    split
    · exact this
    · rename_i hh
      rcases hl with hl | hl
      · exact absurd hl hh
      · omega
/-- Set's function. -/
theorem cloSet (n : Int) (rb bx : Nat) (a b : Int) (c : ByteArray) (w : World) (hr : Blk w rb 60 #[.int .i64 a, .int .i64 b, .string c]) (hx : w.cell? ⟨bx, 0, none⟩ = some (.int .i64 n)) :
    Calls Tryz.prog 38 #[.pointer (some ⟨rb, 0, none⟩), .pointer (some ⟨bx, 0, none⟩)] w fun e w' => e = .returned (.tuple #[]) ∧ Blk w' rb 60 #[.int .i64 n, .int .i64 b, .string c] ∧ Turn (· = rb) w w' := by
  have c0 := hr.cell 0
  have f0 := hr.frozen 0
  simp only [List.getElem?_toArray, List.getElem?_cons_zero] at c0
  have HR := Lib.hid hr
  clear hr
  go_enter Tryz.func38, Tryz.ntmps38
  go_wp2_with fail
  go_end0
  refine ⟨rfl, ?_, ?_⟩
  · have h := HR.out
    unfold Blk at h ⊢
    simp [World.setCell, Array.getElem?_modify, h]
  · exact ⟨rfl, rfl, rfl, by simp [World.setCell], fun i hi hn => Below.heap_setCell _ _ _ _ (fun e => hn e)⟩
set_option maxRecDepth 100000 in
set_option maxHeartbeats 1000000 in
/-- change, by Set's function. -/
theorem chgSet (n : Int) (k : Int) (s : ByteArray) (hs : s.size ≤ maxLen) (g bm bx : Nat) (L : List Ent) (w : World) (h : BkAt w g bm L) (hx : w.cell? ⟨bx, 0, none⟩ = some (.int .i64 n)) (hbx : bx < w.heap.size)
    (hgood : k = 0 → nameB s = true → goodR (s, { rdR L s with v := n })) :
    Calls Tryz.prog 36 #[.pointer (some ⟨g, 0, none⟩), .string s, .int .i64 k, .func (.func 38) #[] #[.pointer (some ⟨bx, 0, none⟩)]] w fun e w' =>
      e = .returned (.int .i64 (chE L s k)) ∧ BkAt w' g bm (chL L s k { rdR L s with v := n }) ∧ Turn (· = bm) w w' := by
  have HR := Lib.hid (cRead s hs g bm L w h)
  have HK := Lib.hid h
  have HG := Lib.hid hgood
  have HX := Lib.hid hx
  clear hgood h hx
  cases hn : nameB s
  · have e1 : chE L s k = 6 := by unfold chE; rw [hn]; rfl
    have e2 : chL L s k { rdR L s with v := n } = L := by unfold chL; rw [hn]; rfl
    rw [e1, e2]
    clear e1 e2
    rw [hn] at HR
    go_enter Tryz.func36, Tryz.ntmps36
    go_wp2_with (go_at_call 35; refine HR.out.mono ?_; rintro e w1 ⟨rfl, hb1⟩; unfold erI)
    go_ret
    have hb2 := hb1.alloc hb1.size (.cells #[.int .i64 (rdR L s).v, .int .i64 (rdR L s).s, .string (rdR L s).f] 60)
    exact ⟨rfl, HK.out.below hb2, Turn.of_below hb2⟩
  · rw [hn] at HR
    have HGa := Lib.hid (fun h => HG.out h hn)
    by_cases hk : k = 0
    · subst hk
      have hg0 := HGa.out rfl
      have HGG := Lib.hid hg0
      clear hg0
      have HPost : Hid (∀ w' : World, BkAt w' g bm (chL L s 0 { rdR L s with v := n }) → Turn (· = bm) w w' → BkAt w' g bm (chL L s 0 { rdR L s with v := n }) ∧ Turn (· = bm) w w') := Lib.hid (fun _ a b => ⟨a, b⟩)
      by_cases hf : hasB L s = true ∨ L.length < 500
      · have e1 : chE L s 0 = 0 := by
          unfold chE
          rw [hn, if_pos rfl, if_pos rfl]
          rcases hf with hf | hf
          · rw [hf]; rfl
          · rw [decide_eq_true hf]; simp
        have e2 : chL L s 0 { rdR L s with v := n } = putR L s { rdR L s with v := n } := by
          unfold chL
          rw [hn]
          rcases hf with hf | hf
          · rw [hf]; rfl
          · rw [decide_eq_true hf]; simp
        rw [e1, e2]
        clear e1 e2
        obtain ⟨R, hR⟩ : ∃ R, R = rdR L s := ⟨_, rfl⟩
        rw [← hR] at HR HGG ⊢
        clear hR HGa HPost
        have hlen := HK.out.len
        have HF := Lib.hid hf
        clear hf
        cases hhas : hasB L s
        · have hlt : L.length < 500 := by
            rcases HF.out with h | h
            · rw [hhas] at h; cases h
            · exact h
          go_enter Tryz.func36, Tryz.ntmps36
          go_wp2_with (first
            | (go_at_call 35; refine HR.out.mono ?_; rintro e w1 ⟨rfl, hb1⟩; unfold erI; have hbk2 := Lib.hid (HK.out.below (hb1.alloc hb1.size (.cells #[.int .i64 R.v, .int .i64 R.s, .string R.f] 60))); have hr2 := Lib.hid (Blk.new w1 60 #[.int .i64 R.v, .int .i64 R.s, .string R.f]))
            | (go_at_call 22; refine (cHas s hs g bm L _ hbk2.out).mono ?_; rintro e w3 ⟨rfl, hb3⟩; rw [hhas]; have hbk3 := Lib.hid (hbk2.out.below hb3); have hr3 := Lib.hid (hr2.out.below hb3 (by simp)); have hx3 := Lib.hid (((hb1.alloc hb1.size (.cells #[.int .i64 R.v, .int .i64 R.s, .string R.f] 60)).trans (hb3.mono (by simp; have := hb1.size; omega))).cell (p := ⟨bx, 0, none⟩) hbx |>.trans HX.out); have c03 := hbk3.out.c0; have hl3 := lenB hbk3.out)
            | (go_at_call 38; refine (cloSet n _ bx _ _ _ _ hr3.out hx3.out).mono ?_; rintro e w4 ⟨rfl, hr4, hT4⟩))
          have hne1 : w1.heap.size ≠ bm := hbk3.out.ne_blk hr3.out
          have hne2 : g ≠ w1.heap.size := blk_ne hbk3.out.blk hr3.out (by decide)
          have hbk4 := hbk3.out.turn hT4 (fun e => hne2 e) (fun e => hne1 e.symm)
          have c04 := hbk4.c0
          have d0 := hr4.cell 0
          have d1 := hr4.cell 1
          have d2 := hr4.cell 2
          simp only [List.getElem?_toArray, List.getElem?_cons_zero, List.getElem?_cons_succ] at d0 d1 d2
          have hbk5 := Lib.hid (hbk4.below ((Below.refl w4.heap.size w4).drew))
          have t1 : Turn (· = bm) w w3 := Turn.of_below ((hb1.alloc hb1.size (.cells #[.int .i64 R.v, .int .i64 R.s, .string R.f] 60)).trans (hb3.mono (by simp; have := hb1.size; omega)))
          have t2 : Turn (· = bm) w w4 := t1.trans hT4 (fun i hi e => by have := hb1.size; omega)
          have t3 := Lib.hid ((t2.trans (S2 := fun _ => False) (Turn.of_below ((Below.refl _ _).drew)) (fun _ _ h => h.elim)) : Turn (· = bm) w w4.drew)
          clear hbk4 t1 t2 hr4 hT4 hne1 hne2
          go_still_tail 6, (by kernel_rfl)
          change wpList _ _ _ _ _ w4.drew
          have hown5 := hbk5.out.own
          go_wp2_with (at_mapUpdate; refine wpList_mapUpdate_own _ rfl _ _ _ 54 rfl 9 60 law Tryz.underlying54 RR bm L.length (DB L) rfl hown5 (by unfold maxLen; omega) (.string s) (.agg #[.int .i64 n, .int .i64 R.s, .string R.f]) (kOf s) rfl rfl (keyOf_string_mk Tryz.underlying9 hs) (.held (.agg #[.int .i64 n, .int .i64 R.s, .string R.f])) [] rfl ?_; intro w5 ho5 hg5)
          go_ret
          exact ⟨rfl, hbk5.out.put ho5 hg5 HF.out HGG.out, t3.out.trans (Turn.of_grown hg5) (fun _ _ h => h)⟩
        · go_enter Tryz.func36, Tryz.ntmps36
          go_wp2_with (first
            | (go_at_call 35; refine HR.out.mono ?_; rintro e w1 ⟨rfl, hb1⟩; unfold erI; have hbk2 := Lib.hid (HK.out.below (hb1.alloc hb1.size (.cells #[.int .i64 R.v, .int .i64 R.s, .string R.f] 60))); have hr2 := Lib.hid (Blk.new w1 60 #[.int .i64 R.v, .int .i64 R.s, .string R.f]))
            | (go_at_call 22; refine (cHas s hs g bm L _ hbk2.out).mono ?_; rintro e w3 ⟨rfl, hb3⟩; rw [hhas]; have hbk3 := Lib.hid (hbk2.out.below hb3); have hr3 := Lib.hid (hr2.out.below hb3 (by simp)); have hx3 := Lib.hid (((hb1.alloc hb1.size (.cells #[.int .i64 R.v, .int .i64 R.s, .string R.f] 60)).trans (hb3.mono (by simp; have := hb1.size; omega))).cell (p := ⟨bx, 0, none⟩) hbx |>.trans HX.out); have c03 := hbk3.out.c0; have hl3 := lenB hbk3.out)
            | (go_at_call 38; refine (cloSet n _ bx _ _ _ _ hr3.out hx3.out).mono ?_; rintro e w4 ⟨rfl, hr4, hT4⟩))
          have hne1 : w1.heap.size ≠ bm := hbk3.out.ne_blk hr3.out
          have hne2 : g ≠ w1.heap.size := blk_ne hbk3.out.blk hr3.out (by decide)
          have hbk4 := hbk3.out.turn hT4 (fun e => hne2 e) (fun e => hne1 e.symm)
          have c04 := hbk4.c0
          have d0 := hr4.cell 0
          have d1 := hr4.cell 1
          have d2 := hr4.cell 2
          simp only [List.getElem?_toArray, List.getElem?_cons_zero, List.getElem?_cons_succ] at d0 d1 d2
          have hbk5 := Lib.hid (hbk4.below ((Below.refl w4.heap.size w4).drew))
          have t1 : Turn (· = bm) w w3 := Turn.of_below ((hb1.alloc hb1.size (.cells #[.int .i64 R.v, .int .i64 R.s, .string R.f] 60)).trans (hb3.mono (by simp; have := hb1.size; omega)))
          have t2 : Turn (· = bm) w w4 := t1.trans hT4 (fun i hi e => by have := hb1.size; omega)
          have t3 := Lib.hid ((t2.trans (S2 := fun _ => False) (Turn.of_below ((Below.refl _ _).drew)) (fun _ _ h => h.elim)) : Turn (· = bm) w w4.drew)
          clear hbk4 t1 t2 hr4 hT4 hne1 hne2
          go_still_tail 6, (by kernel_rfl)
          change wpList _ _ _ _ _ w4.drew
          have hown5 := hbk5.out.own
          go_wp2_with (at_mapUpdate; refine wpList_mapUpdate_own _ rfl _ _ _ 54 rfl 9 60 law Tryz.underlying54 RR bm L.length (DB L) rfl hown5 (by unfold maxLen; omega) (.string s) (.agg #[.int .i64 n, .int .i64 R.s, .string R.f]) (kOf s) rfl rfl (keyOf_string_mk Tryz.underlying9 hs) (.held (.agg #[.int .i64 n, .int .i64 R.s, .string R.f])) [] rfl ?_; intro w5 ho5 hg5)
          go_ret
          exact ⟨rfl, hbk5.out.put ho5 hg5 HF.out HGG.out, t3.out.trans (Turn.of_grown hg5) (fun _ _ h => h)⟩
      · have hno : hasB L s = false := by
          cases hh : hasB L s
          · rfl
          · exact absurd (.inl hh) hf
        have hge : 500 ≤ L.length := by
          rcases Nat.lt_or_ge L.length 500 with h | h
          · exact absurd (.inr h) hf
          · exact h
        have e1 : chE L s 0 = 9 := by
          unfold chE
          rw [hn, if_pos rfl, if_pos rfl, hno, decide_eq_false (by omega)]; rfl
        have e2 : chL L s 0 { rdR L s with v := n } = L := by
          unfold chL
          rw [hn, hno, decide_eq_false (by omega : ¬ L.length < 500)]; rfl
        rw [e1, e2]
        clear e1 e2 hf HGa HPost
        obtain ⟨R, hR⟩ : ∃ R, R = rdR L s := ⟨_, rfl⟩
        rw [← hR] at HR HGG
        clear hR
        have hlen := HK.out.len
        have hhas := hno
        clear hno
        go_enter Tryz.func36, Tryz.ntmps36
        go_wp2_with (first
          | (go_at_call 35; refine HR.out.mono ?_; rintro e w1 ⟨rfl, hb1⟩; unfold erI; have hbk2 := Lib.hid (HK.out.below (hb1.alloc hb1.size (.cells #[.int .i64 R.v, .int .i64 R.s, .string R.f] 60))); have hr2 := Lib.hid (Blk.new w1 60 #[.int .i64 R.v, .int .i64 R.s, .string R.f]))
          | (go_at_call 22; refine (cHas s hs g bm L _ hbk2.out).mono ?_; rintro e w3 ⟨rfl, hb3⟩; rw [hhas]; have hbk3 := Lib.hid (hbk2.out.below hb3); have hr3 := Lib.hid (hr2.out.below hb3 (by simp)); have hx3 := Lib.hid (((hb1.alloc hb1.size (.cells #[.int .i64 R.v, .int .i64 R.s, .string R.f] 60)).trans (hb3.mono (by simp; have := hb1.size; omega))).cell (p := ⟨bx, 0, none⟩) hbx |>.trans HX.out); have c03 := hbk3.out.c0; have hl3 := lenB hbk3.out))
        go_ret
        exact ⟨rfl, hbk3.out, Turn.of_below ((hb1.alloc hb1.size (.cells #[.int .i64 R.v, .int .i64 R.s, .string R.f] 60)).trans (hb3.mono (by simp; have := hb1.size; omega)))⟩
    · have e1 : chE L s k = k := by unfold chE; rw [hn, if_pos rfl, if_neg hk]
      have e2 : chL L s k { rdR L s with v := n } = L := by unfold chL; rw [decide_eq_false hk]; simp
      rw [e1, e2]
      clear e1 e2
      go_enter Tryz.func36, Tryz.ntmps36
      go_wp2_with (go_at_call 35; refine HR.out.mono ?_; rintro e w1 ⟨rfl, hb1⟩; unfold erI)
      go_ret
      have hb2 := hb1.alloc hb1.size (.cells #[.int .i64 (rdR L s).v, .int .i64 (rdR L s).s, .string (rdR L s).f] 60)
      exact ⟨rfl, HK.out.below hb2, Turn.of_below hb2⟩
/-- Step's function. -/
theorem cloStep (n : Int) (rb bx : Nat) (a b : Int) (c : ByteArray) (w : World) (hr : Blk w rb 60 #[.int .i64 a, .int .i64 b, .string c]) (hx : w.cell? ⟨bx, 0, none⟩ = some (.int .i64 n)) :
    Calls Tryz.prog 39 #[.pointer (some ⟨rb, 0, none⟩), .pointer (some ⟨bx, 0, none⟩)] w fun e w' => e = .returned (.tuple #[]) ∧ Blk w' rb 60 #[.int .i64 a, .int .i64 n, .string c] ∧ Turn (· = rb) w w' := by
  have c0 := hr.cell 1
  have f0 := hr.frozen 1
  simp only [List.getElem?_toArray, List.getElem?_cons_zero, List.getElem?_cons_succ] at c0
  have HR := Lib.hid hr
  clear hr
  go_enter Tryz.func39, Tryz.ntmps39
  go_wp2_with fail
  go_end0
  refine ⟨rfl, ?_, ?_⟩
  · have h := HR.out
    unfold Blk at h ⊢
    simp [World.setCell, Array.getElem?_modify, h]
  · exact ⟨rfl, rfl, rfl, by simp [World.setCell], fun i hi hn => Below.heap_setCell _ _ _ _ (fun e => hn e)⟩
set_option maxRecDepth 100000 in
set_option maxHeartbeats 1000000 in
/-- change, by Step's function. -/
theorem chgStep (n : Int) (k : Int) (s : ByteArray) (hs : s.size ≤ maxLen) (g bm bx : Nat) (L : List Ent) (w : World) (h : BkAt w g bm L) (hx : w.cell? ⟨bx, 0, none⟩ = some (.int .i64 n)) (hbx : bx < w.heap.size)
    (hgood : k = 0 → nameB s = true → goodR (s, { rdR L s with s := n })) :
    Calls Tryz.prog 36 #[.pointer (some ⟨g, 0, none⟩), .string s, .int .i64 k, .func (.func 39) #[] #[.pointer (some ⟨bx, 0, none⟩)]] w fun e w' =>
      e = .returned (.int .i64 (chE L s k)) ∧ BkAt w' g bm (chL L s k { rdR L s with s := n }) ∧ Turn (· = bm) w w' := by
  have HR := Lib.hid (cRead s hs g bm L w h)
  have HK := Lib.hid h
  have HG := Lib.hid hgood
  have HX := Lib.hid hx
  clear hgood h hx
  cases hn : nameB s
  · have e1 : chE L s k = 6 := by unfold chE; rw [hn]; rfl
    have e2 : chL L s k { rdR L s with s := n } = L := by unfold chL; rw [hn]; rfl
    rw [e1, e2]
    clear e1 e2
    rw [hn] at HR
    go_enter Tryz.func36, Tryz.ntmps36
    go_wp2_with (go_at_call 35; refine HR.out.mono ?_; rintro e w1 ⟨rfl, hb1⟩; unfold erI)
    go_ret
    have hb2 := hb1.alloc hb1.size (.cells #[.int .i64 (rdR L s).v, .int .i64 (rdR L s).s, .string (rdR L s).f] 60)
    exact ⟨rfl, HK.out.below hb2, Turn.of_below hb2⟩
  · rw [hn] at HR
    have HGa := Lib.hid (fun h => HG.out h hn)
    by_cases hk : k = 0
    · subst hk
      have hg0 := HGa.out rfl
      have HGG := Lib.hid hg0
      clear hg0
      have HPost : Hid (∀ w' : World, BkAt w' g bm (chL L s 0 { rdR L s with s := n }) → Turn (· = bm) w w' → BkAt w' g bm (chL L s 0 { rdR L s with s := n }) ∧ Turn (· = bm) w w') := Lib.hid (fun _ a b => ⟨a, b⟩)
      by_cases hf : hasB L s = true ∨ L.length < 500
      · have e1 : chE L s 0 = 0 := by
          unfold chE
          rw [hn, if_pos rfl, if_pos rfl]
          rcases hf with hf | hf
          · rw [hf]; rfl
          · rw [decide_eq_true hf]; simp
        have e2 : chL L s 0 { rdR L s with s := n } = putR L s { rdR L s with s := n } := by
          unfold chL
          rw [hn]
          rcases hf with hf | hf
          · rw [hf]; rfl
          · rw [decide_eq_true hf]; simp
        rw [e1, e2]
        clear e1 e2
        obtain ⟨R, hR⟩ : ∃ R, R = rdR L s := ⟨_, rfl⟩
        rw [← hR] at HR HGG ⊢
        clear hR HGa HPost
        have hlen := HK.out.len
        have HF := Lib.hid hf
        clear hf
        cases hhas : hasB L s
        · have hlt : L.length < 500 := by
            rcases HF.out with h | h
            · rw [hhas] at h; cases h
            · exact h
          go_enter Tryz.func36, Tryz.ntmps36
          go_wp2_with (first
            | (go_at_call 35; refine HR.out.mono ?_; rintro e w1 ⟨rfl, hb1⟩; unfold erI; have hbk2 := Lib.hid (HK.out.below (hb1.alloc hb1.size (.cells #[.int .i64 R.v, .int .i64 R.s, .string R.f] 60))); have hr2 := Lib.hid (Blk.new w1 60 #[.int .i64 R.v, .int .i64 R.s, .string R.f]))
            | (go_at_call 22; refine (cHas s hs g bm L _ hbk2.out).mono ?_; rintro e w3 ⟨rfl, hb3⟩; rw [hhas]; have hbk3 := Lib.hid (hbk2.out.below hb3); have hr3 := Lib.hid (hr2.out.below hb3 (by simp)); have hx3 := Lib.hid (((hb1.alloc hb1.size (.cells #[.int .i64 R.v, .int .i64 R.s, .string R.f] 60)).trans (hb3.mono (by simp; have := hb1.size; omega))).cell (p := ⟨bx, 0, none⟩) hbx |>.trans HX.out); have c03 := hbk3.out.c0; have hl3 := lenB hbk3.out)
            | (go_at_call 39; refine (cloStep n _ bx _ _ _ _ hr3.out hx3.out).mono ?_; rintro e w4 ⟨rfl, hr4, hT4⟩))
          have hne1 : w1.heap.size ≠ bm := hbk3.out.ne_blk hr3.out
          have hne2 : g ≠ w1.heap.size := blk_ne hbk3.out.blk hr3.out (by decide)
          have hbk4 := hbk3.out.turn hT4 (fun e => hne2 e) (fun e => hne1 e.symm)
          have c04 := hbk4.c0
          have d0 := hr4.cell 0
          have d1 := hr4.cell 1
          have d2 := hr4.cell 2
          simp only [List.getElem?_toArray, List.getElem?_cons_zero, List.getElem?_cons_succ] at d0 d1 d2
          have hbk5 := Lib.hid (hbk4.below ((Below.refl w4.heap.size w4).drew))
          have t1 : Turn (· = bm) w w3 := Turn.of_below ((hb1.alloc hb1.size (.cells #[.int .i64 R.v, .int .i64 R.s, .string R.f] 60)).trans (hb3.mono (by simp; have := hb1.size; omega)))
          have t2 : Turn (· = bm) w w4 := t1.trans hT4 (fun i hi e => by have := hb1.size; omega)
          have t3 := Lib.hid ((t2.trans (S2 := fun _ => False) (Turn.of_below ((Below.refl _ _).drew)) (fun _ _ h => h.elim)) : Turn (· = bm) w w4.drew)
          clear hbk4 t1 t2 hr4 hT4 hne1 hne2
          go_still_tail 6, (by kernel_rfl)
          change wpList _ _ _ _ _ w4.drew
          have hown5 := hbk5.out.own
          go_wp2_with (at_mapUpdate; refine wpList_mapUpdate_own _ rfl _ _ _ 54 rfl 9 60 law Tryz.underlying54 RR bm L.length (DB L) rfl hown5 (by unfold maxLen; omega) (.string s) (.agg #[.int .i64 R.v, .int .i64 n, .string R.f]) (kOf s) rfl rfl (keyOf_string_mk Tryz.underlying9 hs) (.held (.agg #[.int .i64 R.v, .int .i64 n, .string R.f])) [] rfl ?_; intro w5 ho5 hg5)
          go_ret
          exact ⟨rfl, hbk5.out.put ho5 hg5 HF.out HGG.out, t3.out.trans (Turn.of_grown hg5) (fun _ _ h => h)⟩
        · go_enter Tryz.func36, Tryz.ntmps36
          go_wp2_with (first
            | (go_at_call 35; refine HR.out.mono ?_; rintro e w1 ⟨rfl, hb1⟩; unfold erI; have hbk2 := Lib.hid (HK.out.below (hb1.alloc hb1.size (.cells #[.int .i64 R.v, .int .i64 R.s, .string R.f] 60))); have hr2 := Lib.hid (Blk.new w1 60 #[.int .i64 R.v, .int .i64 R.s, .string R.f]))
            | (go_at_call 22; refine (cHas s hs g bm L _ hbk2.out).mono ?_; rintro e w3 ⟨rfl, hb3⟩; rw [hhas]; have hbk3 := Lib.hid (hbk2.out.below hb3); have hr3 := Lib.hid (hr2.out.below hb3 (by simp)); have hx3 := Lib.hid (((hb1.alloc hb1.size (.cells #[.int .i64 R.v, .int .i64 R.s, .string R.f] 60)).trans (hb3.mono (by simp; have := hb1.size; omega))).cell (p := ⟨bx, 0, none⟩) hbx |>.trans HX.out); have c03 := hbk3.out.c0; have hl3 := lenB hbk3.out)
            | (go_at_call 39; refine (cloStep n _ bx _ _ _ _ hr3.out hx3.out).mono ?_; rintro e w4 ⟨rfl, hr4, hT4⟩))
          have hne1 : w1.heap.size ≠ bm := hbk3.out.ne_blk hr3.out
          have hne2 : g ≠ w1.heap.size := blk_ne hbk3.out.blk hr3.out (by decide)
          have hbk4 := hbk3.out.turn hT4 (fun e => hne2 e) (fun e => hne1 e.symm)
          have c04 := hbk4.c0
          have d0 := hr4.cell 0
          have d1 := hr4.cell 1
          have d2 := hr4.cell 2
          simp only [List.getElem?_toArray, List.getElem?_cons_zero, List.getElem?_cons_succ] at d0 d1 d2
          have hbk5 := Lib.hid (hbk4.below ((Below.refl w4.heap.size w4).drew))
          have t1 : Turn (· = bm) w w3 := Turn.of_below ((hb1.alloc hb1.size (.cells #[.int .i64 R.v, .int .i64 R.s, .string R.f] 60)).trans (hb3.mono (by simp; have := hb1.size; omega)))
          have t2 : Turn (· = bm) w w4 := t1.trans hT4 (fun i hi e => by have := hb1.size; omega)
          have t3 := Lib.hid ((t2.trans (S2 := fun _ => False) (Turn.of_below ((Below.refl _ _).drew)) (fun _ _ h => h.elim)) : Turn (· = bm) w w4.drew)
          clear hbk4 t1 t2 hr4 hT4 hne1 hne2
          go_still_tail 6, (by kernel_rfl)
          change wpList _ _ _ _ _ w4.drew
          have hown5 := hbk5.out.own
          go_wp2_with (at_mapUpdate; refine wpList_mapUpdate_own _ rfl _ _ _ 54 rfl 9 60 law Tryz.underlying54 RR bm L.length (DB L) rfl hown5 (by unfold maxLen; omega) (.string s) (.agg #[.int .i64 R.v, .int .i64 n, .string R.f]) (kOf s) rfl rfl (keyOf_string_mk Tryz.underlying9 hs) (.held (.agg #[.int .i64 R.v, .int .i64 n, .string R.f])) [] rfl ?_; intro w5 ho5 hg5)
          go_ret
          exact ⟨rfl, hbk5.out.put ho5 hg5 HF.out HGG.out, t3.out.trans (Turn.of_grown hg5) (fun _ _ h => h)⟩
      · have hno : hasB L s = false := by
          cases hh : hasB L s
          · rfl
          · exact absurd (.inl hh) hf
        have hge : 500 ≤ L.length := by
          rcases Nat.lt_or_ge L.length 500 with h | h
          · exact absurd (.inr h) hf
          · exact h
        have e1 : chE L s 0 = 9 := by
          unfold chE
          rw [hn, if_pos rfl, if_pos rfl, hno, decide_eq_false (by omega)]; rfl
        have e2 : chL L s 0 { rdR L s with s := n } = L := by
          unfold chL
          rw [hn, hno, decide_eq_false (by omega : ¬ L.length < 500)]; rfl
        rw [e1, e2]
        clear e1 e2 hf HGa HPost
        obtain ⟨R, hR⟩ : ∃ R, R = rdR L s := ⟨_, rfl⟩
        rw [← hR] at HR HGG
        clear hR
        have hlen := HK.out.len
        have hhas := hno
        clear hno
        go_enter Tryz.func36, Tryz.ntmps36
        go_wp2_with (first
          | (go_at_call 35; refine HR.out.mono ?_; rintro e w1 ⟨rfl, hb1⟩; unfold erI; have hbk2 := Lib.hid (HK.out.below (hb1.alloc hb1.size (.cells #[.int .i64 R.v, .int .i64 R.s, .string R.f] 60))); have hr2 := Lib.hid (Blk.new w1 60 #[.int .i64 R.v, .int .i64 R.s, .string R.f]))
          | (go_at_call 22; refine (cHas s hs g bm L _ hbk2.out).mono ?_; rintro e w3 ⟨rfl, hb3⟩; rw [hhas]; have hbk3 := Lib.hid (hbk2.out.below hb3); have hr3 := Lib.hid (hr2.out.below hb3 (by simp)); have hx3 := Lib.hid (((hb1.alloc hb1.size (.cells #[.int .i64 R.v, .int .i64 R.s, .string R.f] 60)).trans (hb3.mono (by simp; have := hb1.size; omega))).cell (p := ⟨bx, 0, none⟩) hbx |>.trans HX.out); have c03 := hbk3.out.c0; have hl3 := lenB hbk3.out))
        go_ret
        exact ⟨rfl, hbk3.out, Turn.of_below ((hb1.alloc hb1.size (.cells #[.int .i64 R.v, .int .i64 R.s, .string R.f] 60)).trans (hb3.mono (by simp; have := hb1.size; omega)))⟩
    · have e1 : chE L s k = k := by unfold chE; rw [hn, if_pos rfl, if_neg hk]
      have e2 : chL L s k { rdR L s with s := n } = L := by unfold chL; rw [decide_eq_false hk]; simp
      rw [e1, e2]
      clear e1 e2
      go_enter Tryz.func36, Tryz.ntmps36
      go_wp2_with (go_at_call 35; refine HR.out.mono ?_; rintro e w1 ⟨rfl, hb1⟩; unfold erI)
      go_ret
      have hb2 := hb1.alloc hb1.size (.cells #[.int .i64 (rdR L s).v, .int .i64 (rdR L s).s, .string (rdR L s).f] 60)
      exact ⟨rfl, HK.out.below hb2, Turn.of_below hb2⟩
/-- Format's function. -/
theorem cloFormat (F : ByteArray) (rb bx : Nat) (a b : Int) (c : ByteArray) (w : World) (hr : Blk w rb 60 #[.int .i64 a, .int .i64 b, .string c]) (hx : w.cell? ⟨bx, 0, none⟩ = some (.string F)) :
    Calls Tryz.prog 41 #[.pointer (some ⟨rb, 0, none⟩), .pointer (some ⟨bx, 0, none⟩)] w fun e w' => e = .returned (.tuple #[]) ∧ Blk w' rb 60 #[.int .i64 a, .int .i64 b, .string F] ∧ Turn (· = rb) w w' := by
  have c0 := hr.cell 2
  have f0 := hr.frozen 2
  simp only [List.getElem?_toArray, List.getElem?_cons_zero, List.getElem?_cons_succ] at c0
  have HR := Lib.hid hr
  clear hr
  go_enter Tryz.func41, Tryz.ntmps41
  go_wp2_with fail
  go_end0
  refine ⟨rfl, ?_, ?_⟩
  · have h := HR.out
    unfold Blk at h ⊢
    simp [World.setCell, Array.getElem?_modify, h]
  · exact ⟨rfl, rfl, rfl, by simp [World.setCell], fun i hi hn => Below.heap_setCell _ _ _ _ (fun e => hn e)⟩
set_option maxRecDepth 100000 in
set_option maxHeartbeats 1000000 in
/-- change, by Format's function. -/
theorem chgFormat (F : ByteArray) (k : Int) (s : ByteArray) (hs : s.size ≤ maxLen) (g bm bx : Nat) (L : List Ent) (w : World) (h : BkAt w g bm L) (hx : w.cell? ⟨bx, 0, none⟩ = some (.string F)) (hbx : bx < w.heap.size)
    (hgood : k = 0 → nameB s = true → goodR (s, { rdR L s with f := F })) :
    Calls Tryz.prog 36 #[.pointer (some ⟨g, 0, none⟩), .string s, .int .i64 k, .func (.func 41) #[] #[.pointer (some ⟨bx, 0, none⟩)]] w fun e w' =>
      e = .returned (.int .i64 (chE L s k)) ∧ BkAt w' g bm (chL L s k { rdR L s with f := F }) ∧ Turn (· = bm) w w' := by
  have HR := Lib.hid (cRead s hs g bm L w h)
  have HK := Lib.hid h
  have HG := Lib.hid hgood
  have HX := Lib.hid hx
  clear hgood h hx
  cases hn : nameB s
  · have e1 : chE L s k = 6 := by unfold chE; rw [hn]; rfl
    have e2 : chL L s k { rdR L s with f := F } = L := by unfold chL; rw [hn]; rfl
    rw [e1, e2]
    clear e1 e2
    rw [hn] at HR
    go_enter Tryz.func36, Tryz.ntmps36
    go_wp2_with (go_at_call 35; refine HR.out.mono ?_; rintro e w1 ⟨rfl, hb1⟩; unfold erI)
    go_ret
    have hb2 := hb1.alloc hb1.size (.cells #[.int .i64 (rdR L s).v, .int .i64 (rdR L s).s, .string (rdR L s).f] 60)
    exact ⟨rfl, HK.out.below hb2, Turn.of_below hb2⟩
  · rw [hn] at HR
    have HGa := Lib.hid (fun h => HG.out h hn)
    by_cases hk : k = 0
    · subst hk
      have hg0 := HGa.out rfl
      have HGG := Lib.hid hg0
      clear hg0
      have HPost : Hid (∀ w' : World, BkAt w' g bm (chL L s 0 { rdR L s with f := F }) → Turn (· = bm) w w' → BkAt w' g bm (chL L s 0 { rdR L s with f := F }) ∧ Turn (· = bm) w w') := Lib.hid (fun _ a b => ⟨a, b⟩)
      by_cases hf : hasB L s = true ∨ L.length < 500
      · have e1 : chE L s 0 = 0 := by
          unfold chE
          rw [hn, if_pos rfl, if_pos rfl]
          rcases hf with hf | hf
          · rw [hf]; rfl
          · rw [decide_eq_true hf]; simp
        have e2 : chL L s 0 { rdR L s with f := F } = putR L s { rdR L s with f := F } := by
          unfold chL
          rw [hn]
          rcases hf with hf | hf
          · rw [hf]; rfl
          · rw [decide_eq_true hf]; simp
        rw [e1, e2]
        clear e1 e2
        obtain ⟨R, hR⟩ : ∃ R, R = rdR L s := ⟨_, rfl⟩
        rw [← hR] at HR HGG ⊢
        clear hR HGa HPost
        have hlen := HK.out.len
        have HF := Lib.hid hf
        clear hf
        cases hhas : hasB L s
        · have hlt : L.length < 500 := by
            rcases HF.out with h | h
            · rw [hhas] at h; cases h
            · exact h
          go_enter Tryz.func36, Tryz.ntmps36
          go_wp2_with (first
            | (go_at_call 35; refine HR.out.mono ?_; rintro e w1 ⟨rfl, hb1⟩; unfold erI; have hbk2 := Lib.hid (HK.out.below (hb1.alloc hb1.size (.cells #[.int .i64 R.v, .int .i64 R.s, .string R.f] 60))); have hr2 := Lib.hid (Blk.new w1 60 #[.int .i64 R.v, .int .i64 R.s, .string R.f]))
            | (go_at_call 22; refine (cHas s hs g bm L _ hbk2.out).mono ?_; rintro e w3 ⟨rfl, hb3⟩; rw [hhas]; have hbk3 := Lib.hid (hbk2.out.below hb3); have hr3 := Lib.hid (hr2.out.below hb3 (by simp)); have hx3 := Lib.hid (((hb1.alloc hb1.size (.cells #[.int .i64 R.v, .int .i64 R.s, .string R.f] 60)).trans (hb3.mono (by simp; have := hb1.size; omega))).cell (p := ⟨bx, 0, none⟩) hbx |>.trans HX.out); have c03 := hbk3.out.c0; have hl3 := lenB hbk3.out)
            | (go_at_call 41; refine (cloFormat F _ bx _ _ _ _ hr3.out hx3.out).mono ?_; rintro e w4 ⟨rfl, hr4, hT4⟩))
          have hne1 : w1.heap.size ≠ bm := hbk3.out.ne_blk hr3.out
          have hne2 : g ≠ w1.heap.size := blk_ne hbk3.out.blk hr3.out (by decide)
          have hbk4 := hbk3.out.turn hT4 (fun e => hne2 e) (fun e => hne1 e.symm)
          have c04 := hbk4.c0
          have d0 := hr4.cell 0
          have d1 := hr4.cell 1
          have d2 := hr4.cell 2
          simp only [List.getElem?_toArray, List.getElem?_cons_zero, List.getElem?_cons_succ] at d0 d1 d2
          have hbk5 := Lib.hid (hbk4.below ((Below.refl w4.heap.size w4).drew))
          have t1 : Turn (· = bm) w w3 := Turn.of_below ((hb1.alloc hb1.size (.cells #[.int .i64 R.v, .int .i64 R.s, .string R.f] 60)).trans (hb3.mono (by simp; have := hb1.size; omega)))
          have t2 : Turn (· = bm) w w4 := t1.trans hT4 (fun i hi e => by have := hb1.size; omega)
          have t3 := Lib.hid ((t2.trans (S2 := fun _ => False) (Turn.of_below ((Below.refl _ _).drew)) (fun _ _ h => h.elim)) : Turn (· = bm) w w4.drew)
          clear hbk4 t1 t2 hr4 hT4 hne1 hne2
          go_still_tail 6, (by kernel_rfl)
          change wpList _ _ _ _ _ w4.drew
          have hown5 := hbk5.out.own
          go_wp2_with (at_mapUpdate; refine wpList_mapUpdate_own _ rfl _ _ _ 54 rfl 9 60 law Tryz.underlying54 RR bm L.length (DB L) rfl hown5 (by unfold maxLen; omega) (.string s) (.agg #[.int .i64 R.v, .int .i64 R.s, .string F]) (kOf s) rfl rfl (keyOf_string_mk Tryz.underlying9 hs) (.held (.agg #[.int .i64 R.v, .int .i64 R.s, .string F])) [] rfl ?_; intro w5 ho5 hg5)
          go_ret
          exact ⟨rfl, hbk5.out.put ho5 hg5 HF.out HGG.out, t3.out.trans (Turn.of_grown hg5) (fun _ _ h => h)⟩
        · go_enter Tryz.func36, Tryz.ntmps36
          go_wp2_with (first
            | (go_at_call 35; refine HR.out.mono ?_; rintro e w1 ⟨rfl, hb1⟩; unfold erI; have hbk2 := Lib.hid (HK.out.below (hb1.alloc hb1.size (.cells #[.int .i64 R.v, .int .i64 R.s, .string R.f] 60))); have hr2 := Lib.hid (Blk.new w1 60 #[.int .i64 R.v, .int .i64 R.s, .string R.f]))
            | (go_at_call 22; refine (cHas s hs g bm L _ hbk2.out).mono ?_; rintro e w3 ⟨rfl, hb3⟩; rw [hhas]; have hbk3 := Lib.hid (hbk2.out.below hb3); have hr3 := Lib.hid (hr2.out.below hb3 (by simp)); have hx3 := Lib.hid (((hb1.alloc hb1.size (.cells #[.int .i64 R.v, .int .i64 R.s, .string R.f] 60)).trans (hb3.mono (by simp; have := hb1.size; omega))).cell (p := ⟨bx, 0, none⟩) hbx |>.trans HX.out); have c03 := hbk3.out.c0; have hl3 := lenB hbk3.out)
            | (go_at_call 41; refine (cloFormat F _ bx _ _ _ _ hr3.out hx3.out).mono ?_; rintro e w4 ⟨rfl, hr4, hT4⟩))
          have hne1 : w1.heap.size ≠ bm := hbk3.out.ne_blk hr3.out
          have hne2 : g ≠ w1.heap.size := blk_ne hbk3.out.blk hr3.out (by decide)
          have hbk4 := hbk3.out.turn hT4 (fun e => hne2 e) (fun e => hne1 e.symm)
          have c04 := hbk4.c0
          have d0 := hr4.cell 0
          have d1 := hr4.cell 1
          have d2 := hr4.cell 2
          simp only [List.getElem?_toArray, List.getElem?_cons_zero, List.getElem?_cons_succ] at d0 d1 d2
          have hbk5 := Lib.hid (hbk4.below ((Below.refl w4.heap.size w4).drew))
          have t1 : Turn (· = bm) w w3 := Turn.of_below ((hb1.alloc hb1.size (.cells #[.int .i64 R.v, .int .i64 R.s, .string R.f] 60)).trans (hb3.mono (by simp; have := hb1.size; omega)))
          have t2 : Turn (· = bm) w w4 := t1.trans hT4 (fun i hi e => by have := hb1.size; omega)
          have t3 := Lib.hid ((t2.trans (S2 := fun _ => False) (Turn.of_below ((Below.refl _ _).drew)) (fun _ _ h => h.elim)) : Turn (· = bm) w w4.drew)
          clear hbk4 t1 t2 hr4 hT4 hne1 hne2
          go_still_tail 6, (by kernel_rfl)
          change wpList _ _ _ _ _ w4.drew
          have hown5 := hbk5.out.own
          go_wp2_with (at_mapUpdate; refine wpList_mapUpdate_own _ rfl _ _ _ 54 rfl 9 60 law Tryz.underlying54 RR bm L.length (DB L) rfl hown5 (by unfold maxLen; omega) (.string s) (.agg #[.int .i64 R.v, .int .i64 R.s, .string F]) (kOf s) rfl rfl (keyOf_string_mk Tryz.underlying9 hs) (.held (.agg #[.int .i64 R.v, .int .i64 R.s, .string F])) [] rfl ?_; intro w5 ho5 hg5)
          go_ret
          exact ⟨rfl, hbk5.out.put ho5 hg5 HF.out HGG.out, t3.out.trans (Turn.of_grown hg5) (fun _ _ h => h)⟩
      · have hno : hasB L s = false := by
          cases hh : hasB L s
          · rfl
          · exact absurd (.inl hh) hf
        have hge : 500 ≤ L.length := by
          rcases Nat.lt_or_ge L.length 500 with h | h
          · exact absurd (.inr h) hf
          · exact h
        have e1 : chE L s 0 = 9 := by
          unfold chE
          rw [hn, if_pos rfl, if_pos rfl, hno, decide_eq_false (by omega)]; rfl
        have e2 : chL L s 0 { rdR L s with f := F } = L := by
          unfold chL
          rw [hn, hno, decide_eq_false (by omega : ¬ L.length < 500)]; rfl
        rw [e1, e2]
        clear e1 e2 hf HGa HPost
        obtain ⟨R, hR⟩ : ∃ R, R = rdR L s := ⟨_, rfl⟩
        rw [← hR] at HR HGG
        clear hR
        have hlen := HK.out.len
        have hhas := hno
        clear hno
        go_enter Tryz.func36, Tryz.ntmps36
        go_wp2_with (first
          | (go_at_call 35; refine HR.out.mono ?_; rintro e w1 ⟨rfl, hb1⟩; unfold erI; have hbk2 := Lib.hid (HK.out.below (hb1.alloc hb1.size (.cells #[.int .i64 R.v, .int .i64 R.s, .string R.f] 60))); have hr2 := Lib.hid (Blk.new w1 60 #[.int .i64 R.v, .int .i64 R.s, .string R.f]))
          | (go_at_call 22; refine (cHas s hs g bm L _ hbk2.out).mono ?_; rintro e w3 ⟨rfl, hb3⟩; rw [hhas]; have hbk3 := Lib.hid (hbk2.out.below hb3); have hr3 := Lib.hid (hr2.out.below hb3 (by simp)); have hx3 := Lib.hid (((hb1.alloc hb1.size (.cells #[.int .i64 R.v, .int .i64 R.s, .string R.f] 60)).trans (hb3.mono (by simp; have := hb1.size; omega))).cell (p := ⟨bx, 0, none⟩) hbx |>.trans HX.out); have c03 := hbk3.out.c0; have hl3 := lenB hbk3.out))
        go_ret
        exact ⟨rfl, hbk3.out, Turn.of_below ((hb1.alloc hb1.size (.cells #[.int .i64 R.v, .int .i64 R.s, .string R.f] 60)).trans (hb3.mono (by simp; have := hb1.size; omega)))⟩
    · have e1 : chE L s k = k := by unfold chE; rw [hn, if_pos rfl, if_neg hk]
      have e2 : chL L s k { rdR L s with f := F } = L := by unfold chL; rw [decide_eq_false hk]; simp
      rw [e1, e2]
      clear e1 e2
      go_enter Tryz.func36, Tryz.ntmps36
      go_wp2_with (go_at_call 35; refine HR.out.mono ?_; rintro e w1 ⟨rfl, hb1⟩; unfold erI)
      go_ret
      have hb2 := hb1.alloc hb1.size (.cells #[.int .i64 (rdR L s).v, .int .i64 (rdR L s).s, .string (rdR L s).f] 60)
      exact ⟨rfl, HK.out.below hb2, Turn.of_below hb2⟩
end Go.Proofs.YtaamjccffkdlhaaGreatDoor
