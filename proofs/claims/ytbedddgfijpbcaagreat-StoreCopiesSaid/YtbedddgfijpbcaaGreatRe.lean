/- Walk: put, of the document's store. -/
import Derived.Test.YtbedddgfijpbcaaGreatRd
import Derived.Test.YtbedddgfijpbcaaGreatBb
import Derived.Deep.RegionHeldLaw
namespace Go.Proofs.YtbedddgfijpbcaaGreat
open Go.RowKit Go.Maps Go.WideMaps

section
variable {U K : Nat → Prop} {w w' : World} {x : Nat} {M : List Ent} {es : List En} {zs : List (En × Value)} {nv ev : Value}
/-- An entry is written anew. -/
theorem RS.setE {g cap k : Nat} {en : En} {v : Value} (h : RS U K w x M zs nv (.slice (some ⟨g, 0, none⟩) zs.length cap)) (hk : k < zs.length) (hv : LnsAt K w v (enL en)) (ho : okE en) :
    RS U K ((w.setCell ⟨g, k * 2, none⟩ (.int .i64 en.kind)).setCell ⟨g, k * 2 + 1, none⟩ v) x M (zs.set k (en, v)) nv (.slice (some ⟨g, 0, none⟩) zs.length cap) ∧ Turn U w ((w.setCell ⟨g, k * 2, none⟩ (.int .i64 en.kind)).setCell ⟨g, k * 2 + 1, none⟩ v) := by
  have hug : U g := h.ue g rfl
  have hT1 := turn_set w g (k * 2) (.int .i64 en.kind)
  have hT := hT1.trans (turn_set (w.setCell ⟨g, k * 2, none⟩ (.int .i64 en.kind)) g (k * 2 + 1) v) (fun _ _ h => h)
  have hkg : ∀ i, K i → ¬ i = g := fun i hi e => h.uk g hug (e ▸ hi)
  have hs := hT.size
  have hxg : x ≠ g := by
    rcases h.ens.2 with ⟨h5, _⟩ | ⟨g', c, cur, h5, _, h6, _⟩
    · cases h5
    · injection h5 with h5
      injection h5 with h5
      injection h5 with h5
      subst h5
      exact blk_ne h.blk (show Blk w g _ cur from h6) (by decide)
  have hlen : (zs.set k (en, v)).length = zs.length := List.length_set
  have hst := ((h.ens.stored (k * 2) (.int .i64 en.kind)).1.stored (k * 2 + 1) v).1
  have hset := c2_set (f := enF) (L := zs) (k := k) (en, v) hk
  refine ⟨⟨hT.blk h.blk hxg, own_turn h.nms hT (fun i hi => hkg i (h.kn i hi)), ?_, fun z hz => ?_, h.srt, h.len, h.good, fun p hp => by rw [hlen]; exact h.ats p hp, h.ux, h.ue, h.kn, h.uk, fun i hi => Nat.lt_of_lt_of_le (h.ul i hi) hs, fun i hi => Nat.lt_of_lt_of_le (h.kl i hi) hs⟩, hT.mono (fun i e => by rw [e]; exact hug)⟩
  · rw [hlen, ← hset]
    exact hst
  · rcases List.mem_or_eq_of_mem_set hz with hz | rfl
    · exact ⟨(h.lns z hz).1.stay (Kept.of_turn hT hkg) (fun _ h => h), (h.lns z hz).2⟩
    · exact ⟨hv.stay (Kept.of_turn hT hkg) (fun _ h => h), ho⟩
/-- What put answers, and what it leaves. -/
def ptI (M : List Ent) (s : ByteArray) : Int := if hasB M s then 0 else if M.length < 500 then 0 else 9
def ptM (M : List Ent) (es : List En) (s : ByteArray) : List Ent := if hasB M s then M else if M.length < 500 then putR M s es.length else M
def ptZ (M : List Ent) (es : List En) (s : ByteArray) (en : En) : List En := if hasB M s then es.set (getR M s) en else if M.length < 500 then es ++ [en] else es
theorem RTo.same (h : RSt U K w x M es) (hb : Below w.heap.size w w') : RTo U K w w' x M es := ⟨U, K, h.below hb, Turn.of_below hb, fun _ h => .inl h, fun _ h => .inl h⟩
/-- A change behind new blocks. -/
theorem RTo.from_ {w1 : World} (hb : Below w.heap.size w w1) (h : RTo U K w1 w' x M es) : RTo U K w w' x M es :=
  RTo.trans (Turn.of_below hb) (fun _ h => .inl h) (fun _ h => .inl h) h
theorem LnsAt.on {v : Value} {ls : List Ln} (h : LnsAt K w v ls) (hb : Below w.heap.size w w') : LnsAt K w' v ls := h.stay (Kept.of_all hb) (fun _ h => h)
theorem RTo.drew (h : RTo U K w w' x M es) : RTo U K w w'.drew x M es := by
  obtain ⟨U', K', h1, h2, h3, h4⟩ := h
  exact ⟨U', K', h1.below (Below.refl _ _).drew, h2.trans (S2 := fun _ => False) (Turn.of_below (Below.refl _ _).drew) (fun _ _ h => h.elim), h3, h4⟩
set_option maxRecDepth 100000 in
set_option maxHeartbeats 1000000 in
/-- put, of a name that is there. -/
theorem nPutHas (s : ByteArray) (en : En) (A : Option Addr) (n c : Nat) (hh : hasB M s = true) (hv : LnsAt K w (.slice A n c) (enL en)) (ho : okE en) (h : RSt U K w x M es) :
    Calls Tryz.prog 52 #[.pointer (some ⟨x, 0, none⟩), .string s, .agg #[.int .i64 en.kind, .slice A n c]] w fun r w' => r = .returned (.int .i64 0) ∧ RTo U K w w' x M (es.set (getR M s) en) := by
  have hb0 : Below w.heap.size w (w.alloc (.cells #[.int .i64 en.kind, .slice A n c] 62)) := (Below.refl _ _).alloc (Nat.le_refl _) _
  have hblk := Blk.new w 62 #[.int .i64 en.kind, .slice A n c]
  have p0 := hblk.cell 0
  have p1 := hblk.cell 1
  simp only [List.getElem?_toArray, List.getElem?_cons_zero, List.getElem?_cons_succ] at p0 p1
  have hF := nFind s (h.below hb0)
  unfold fdI at hF
  rw [if_pos hh] at hF
  have HF := Lib.hid hF
  clear hF
  obtain ⟨zs, nv, ev, h, rfl⟩ := h
  have hat := h.ats _ (mem_get hh)
  clear hh
  obtain ⟨k, hk⟩ : ∃ k : Nat, getR M s = k := ⟨_, rfl⟩
  simp only [hk] at HF hat ⊢
  clear hk
  have hat : @LT.lt Nat _ k zs.length := hat
  obtain ⟨Ae, cap, rfl, hcap, hA⟩ := own_form2 h.ens
  obtain ⟨g, rfl⟩ := hA (by omega)
  have h1 := h.below hb0
  obtain ⟨hset, hturn⟩ := h1.setE hat (hv.on hb0) ho
  have c2 := (h.below hb0).q2
  obtain ⟨d0, d1⟩ := h1.en (List.getElem?_eq_getElem hat)
  have HD : Hid (RTo U K w (((w.alloc (.cells #[.int .i64 en.kind, .slice A n c] 62)).setCell ⟨g, k * 2, none⟩ (.int .i64 en.kind)).setCell ⟨g, k * 2 + 1, none⟩ (.slice A n c)).drew x M ((zs.map (·.1)).set k en)) :=
    Lib.hid (RTo.from_ hb0 (RTo.drew ⟨U, K, ⟨_, nv, _, hset, by rw [List.map_set]⟩, hturn, fun _ h => .inl h, fun _ h => .inl h⟩))
  obtain ⟨cur, hbk⟩ : ∃ cur, Blk (w.alloc (.cells #[.int .i64 en.kind, .slice A n c] 62)) g 62 cur := by
    rcases h1.ens.2 with ⟨h5, _⟩ | ⟨g', c, cur, h5, _, h6, _⟩
    · cases h5
    · injection h5 with h5
      injection h5 with h5
      injection h5 with h5
      subst h5
      exact ⟨cur, h6⟩
  have f0 := hbk.frozen (k * 2)
  have f1 := (blk_set hbk (o := k * 2) (.int .i64 en.kind)).frozen (k * 2 + 1)
  have d1' : ((w.alloc (.cells #[.int .i64 en.kind, .slice A n c] 62)).setCell ⟨g, k * 2, none⟩ (.int .i64 en.kind)).cell? ⟨g, k * 2 + 1, none⟩ = some (zs[k].2) := (cell_set hbk _ (by omega)).trans d1
  clear h h1 hset hturn hbk hv ho hblk hb0
  go_enter Tryz.func52, Tryz.ntmps52
  go_wp2_with (go_at_call 53; refine HF.out.mono ?_; rintro r w1 ⟨rfl, hw⟩; rw [hw] at p0 p1 c2 d0 d1 d1' f0 f1 HD; clear hw)
  go_still_tail 7, (by kernel_rfl)
  change wpList _ _ _ _ _ w1.drew
  go_wp2_with fail
  go_ret
  exact ⟨rfl, HD.out⟩
theorem Turn.of_row {row : Option Nat} (h : w.grownBy w' row) : Turn (fun i => row = some i) w w' := ⟨h.os, h.tape, h.output, h.size, fun i hi hn => h.block i hi (fun e => hn e.symm)⟩
/-- An entry is put behind the others. -/
theorem RS.addE {en : En} {v v' : Value} {w1 w2 : World} (h : RS U K w x M zs nv ev) (hv : LnsAt K w v (enL en)) (ho : okE en) (hb1 : Below w.heap.size w w1) (hg : w1.grownBy w2 ev.ownBlock)
    (hown : w2.ownsRow 0 62 2 v' (zs.length + 1) (c2 enF zs ++ c2 enF [(en, v)])) (hat : v'.ownBlock = ev.ownBlock ∨ v'.ownBlock = some w1.heap.size) :
    RS (fun i => U i ∨ v'.ownBlock = some i) K (w2.setCell ⟨x, 2, none⟩ v') x M (zs ++ [(en, v)]) nv v' ∧ Turn U w (w2.setCell ⟨x, 2, none⟩ v') ∧ (∀ i, (U i ∨ v'.ownBlock = some i) → U i ∨ w.heap.size ≤ i) := by
  have hT1 := Turn.of_row hg
  have hT2 := turn_set w2 x 2 v'
  have h1 := h.below hb1
  have hxl := h.blk.lt
  have s1 := hb1.size
  have s2 := hT1.size
  have s3 := hT2.size
  have hlt := hown.lt
  have hxe : ev.ownBlock ≠ some x := by
    intro e
    rcases h.ens.2 with ⟨h5, _⟩ | ⟨g', c, cur, h5, _, h6, _⟩
    · rw [h5] at e; cases e
    · rw [h5] at e
      injection e with e
      exact blk_ne (show Blk w g' _ cur from h6) h.blk (by decide) e
  have hnew : ∀ i, v'.ownBlock = some i → U i ∨ w.heap.size ≤ i := fun i hi => by
    rcases hat with e | e
    · rw [e] at hi; exact .inl (h.ue i hi)
    · rw [e] at hi
      injection hi with hi
      exact .inr (by omega)
  have hT : Turn U w (w2.setCell ⟨x, 2, none⟩ v') := ((Turn.of_below hb1 : Turn U w w1).trans hT1 (fun i _ e => h.ue i e)).trans hT2 (fun i _ e => by rw [e]; exact h.ux)
  have hKn : ∀ i, K i → ¬ v'.ownBlock = some i := fun i hi e => by
    rcases hnew i e with h2 | h2
    · exact h.uk i h2 hi
    · have := h.kl i hi
      omega
  have hblk2 : Blk w2 x 50 #[.bool true, nv, ev] := hT1.blk h1.blk hxe
  refine ⟨⟨blk_set hblk2 v', own_turn h.nms hT (fun g hg2 e => h.uk g e (h.kn g hg2)), ?_, fun z hz => ?_, h.srt, h.len, h.good, fun p hp => by rw [List.length_append]; exact Nat.lt_of_lt_of_le (h.ats p hp) (Nat.le_add_right _ _), .inl h.ux, fun g hg2 => .inr hg2, h.kn, ?_, ?_, fun i hi => by have := h.kl i hi; omega⟩, hT, fun i hi => ?_⟩
  · rw [List.length_append, c2_app]
    refine own_turn hown hT2 (fun g hg2 e => ?_)
    rw [e] at hg2
    rcases hat with h2 | h2
    · rw [h2] at hg2; exact hxe hg2
    · rw [h2] at hg2
      injection hg2 with hg2
      omega
  · have hst : ∀ {v : Value} {ls : List Ln}, LnsAt K w v ls → LnsAt K (w2.setCell ⟨x, 2, none⟩ v') v ls := fun hl => hl.stay (Kept.of_turn hT (fun i hi e => h.uk i e hi)) (fun _ h => h)
    rcases List.mem_append.1 hz with hz | hz
    · exact ⟨hst (h.lns z hz).1, (h.lns z hz).2⟩
    · rw [List.mem_singleton] at hz
      subst hz
      exact ⟨hst hv, ho⟩
  · rintro i (hi | hi) hk
    · exact h.uk i hi hk
    · exact hKn i hk hi
  · rintro i (hi | hi)
    · have := h.ul i hi
      omega
    · have := (hlt i hi).2
      omega
  · rcases hi with hi | hi
    · exact .inl hi
    · exact hnew i hi
theorem en_one : ∀ (a : En × Value), (∃ A n c, a.2 = .slice A n c) → ∀ u ∈ c2 enF [a], u.oneCell' = true := by
  rintro ⟨en, _⟩ ⟨A, n, c, rfl⟩ u hu
  simp only [c2, List.flatMap_cons, List.flatMap_nil, List.append_nil, List.mem_cons, List.not_mem_nil, or_false] at hu
  rcases hu with rfl | rfl <;> rfl
set_option maxRecDepth 100000 in
set_option maxHeartbeats 1000000 in
/-- put, of a name that is not there, and there is no room. -/
theorem nPutFull (s : ByteArray) (en : En) (A : Option Addr) (n c : Nat) (hh : hasB M s = false) (hr : ¬ M.length < 500) (h : RSt U K w x M es) :
    Calls Tryz.prog 52 #[.pointer (some ⟨x, 0, none⟩), .string s, .agg #[.int .i64 en.kind, .slice A n c]] w fun r w' => r = .returned (.int .i64 9) ∧ RTo U K w w' x M es := by
  have hb0 : Below w.heap.size w (w.alloc (.cells #[.int .i64 en.kind, .slice A n c] 62)) := (Below.refl _ _).alloc (Nat.le_refl _) _
  have hF := nFind s (h.below hb0)
  unfold fdI at hF
  rw [hh] at hF
  simp only [Bool.false_eq_true, if_false] at hF
  have HF := Lib.hid hF
  have HD := Lib.hid (RTo.same h hb0)
  obtain ⟨zs, nv, ev, h, rfl⟩ := h
  obtain ⟨An, cap, rfl, hcap, _⟩ := own_form2 h.nms
  have c1 := (h.below hb0).q1
  have hlen := h.len
  clear hF hh h
  go_enter Tryz.func52, Tryz.ntmps52
  go_wp2_with (go_at_call 53; refine HF.out.mono ?_; rintro r w1 ⟨rfl, rfl⟩)
  go_ret
  exact ⟨rfl, HD.out⟩
set_option maxRecDepth 100000 in
set_option maxHeartbeats 1000000 in
/-- put, of a name that is not there, and there is room. -/
theorem nPutNew (s : ByteArray) (en : En) (A : Option Addr) (n c : Nat) (hn : nameB s = true) (hh : hasB M s = false) (hr : M.length < 500) (hz : es.length ≤ 1000000) (hv : LnsAt K w (.slice A n c) (enL en)) (ho : okE en) (h : RSt U K w x M es) :
    Calls Tryz.prog 52 #[.pointer (some ⟨x, 0, none⟩), .string s, .agg #[.int .i64 en.kind, .slice A n c]] w fun r w' => r = .returned (.int .i64 0) ∧ RTo U K w w' x (putR M s es.length) (es ++ [en]) := by
  obtain ⟨i0, hi0, hz0, hz1, hz2⟩ := info_parts entry_info
  have hb0 : Below w.heap.size w (w.alloc (.cells #[.int .i64 en.kind, .slice A n c] 62)) := (Below.refl _ _).alloc (Nat.le_refl _) _
  have hblk := Blk.new w 62 #[.int .i64 en.kind, .slice A n c]
  have p0 := hblk.cell 0
  have p1 := hblk.cell 1
  simp only [List.getElem?_toArray, List.getElem?_cons_zero, List.getElem?_cons_succ] at p0 p1
  have hF := nFind s (h.below hb0)
  unfold fdI at hF
  rw [hh] at hF
  simp only [Bool.false_eq_true, if_false] at hF
  have HF := Lib.hid hF
  obtain ⟨zs, nv, ev, h, rfl⟩ := h
  obtain ⟨An, cap, rfl, hcap, _⟩ := own_form2 h.nms
  obtain ⟨Ae, cape, rfl, hcape, _⟩ := own_form2 h.ens
  have h1 := h.below hb0
  have c1 := h1.q1
  have k2 := h1.q2
  have k2' := (h.below (hb0.alloc hb0.size (.cells #[.int .i64 en.kind, .slice A n c] 62))).q2
  have hlen := h.len
  rw [List.length_map] at hz ⊢
  have HFin : Hid (∀ (wb : World) (ty : TypeId), Below w.heap.size w wb → Blk (wb.alloc (.cells #[.int .i64 en.kind, .slice A n c] 62)) wb.heap.size 62 #[.int .i64 en.kind, .slice A n c] → ∃ A' c' w3, (Builtin.append_ #[48, 48] ty #[.slice Ae zs.length cape, .slice (some ⟨wb.heap.size, 0, none⟩) 1 1]).run Tryz.prog (wb.alloc (.cells #[.int .i64 en.kind, .slice A n c] 62)) = .ok (.slice A' (zs.length + 1) c') w3 ∧
      w3.cell? ⟨x, 2, none⟩ = some (.slice Ae zs.length cape) ∧ w3.frozen? ⟨x, 2, none⟩ = false ∧ (w3.setCell ⟨x, 2, none⟩ (.slice A' (zs.length + 1) c')).cell? ⟨x, 2, none⟩ = some (.slice A' (zs.length + 1) c') ∧
      Calls Tryz.prog 57 #[.pointer (some ⟨x, 0, none⟩), .string s, .int .i64 (zs.length : Nat)] (w3.setCell ⟨x, 2, none⟩ (.slice A' (zs.length + 1) c')) fun r w' => r = .returned (.tuple #[]) ∧ RTo U K w w' x (putR M s zs.length) (zs.map (·.1) ++ [en])) := Lib.hid (fun wb ty hb hbk => by
    have hba := hb.alloc hb.size (.cells #[.int .i64 en.kind, .slice A n c] 62)
    have hb2 := h.below hba
    obtain ⟨v', w3, q1, q2, q3, q4, q5⟩ := run_append_own_at (P := Tryz.prog) (wb.alloc (.cells #[.int .i64 en.kind, .slice A n c] 62)) 0 48 ty 62 i0 _ 2 32 Tryz.underlying48 hi0 hz0 hz1 hz2 rfl (by omega) (.slice Ae zs.length cape) zs.length _ hb2.ens ⟨wb.heap.size, 0, none⟩ 1 1 (c2 enF [(en, .slice A n c)]) rfl
      (cells_new hbk) (en_one _ ⟨_, _, _, rfl⟩) (by unfold maxLen; omega) (by omega) (Nat.zero_le _)
    obtain ⟨A', c', rfl, _, _⟩ := own_form2 q2
    have hx := blk_set (hb2.blk) (o := 2) (.slice A' (zs.length + 1) c')
    obtain ⟨r1, r2, r3⟩ := h.addE hv ho hba q3 q2 q5
    have hxe : (Value.slice Ae zs.length cape).ownBlock ≠ some x := by
      intro e
      rcases hb2.ens.2 with ⟨h5, _⟩ | ⟨g', c, cur, h5, _, h6, _⟩
      · rw [h5] at e; cases e
      · rw [h5] at e
        injection e with e
        exact blk_ne (show Blk _ g' _ cur from h6) hb2.blk (by decide) e
    have hbx : Blk w3 x 50 #[.bool true, .slice An M.length cap, .slice Ae zs.length cape] := (Turn.of_row q3).blk hb2.blk hxe
    refine ⟨A', c', w3, q1, hbx.cell 2, hbx.frozen 2, r1.q2, ?_⟩
    have hld := nLead (K := K) s zs.length hn (by rw [List.length_map, List.length_append]; exact Nat.lt_succ_self _) (.inr hr) ⟨zs ++ [(en, .slice A n c)], _, _, r1, rfl⟩
    refine hld.mono fun r w' ⟨e1, e2⟩ => ⟨e1, ?_⟩
    rw [List.map_append] at e2
    exact RTo.trans r2 r3 (fun i hi => .inl hi) e2)
  have hnl : ((M.length : Nat) : Int) < 500 := by omega
  clear hF hblk
  go_enter Tryz.func52, Tryz.ntmps52
  go_wp2_with (go_at_call 53; refine HF.out.mono ?_; rintro r w1 ⟨rfl, hw⟩; rw [hw] at p0 p1 c1 k2 k2' hb0)
  obtain ⟨A', c', w3, qrun, qc, qf, qd, ql⟩ := HFin.out w1.drew 48 hb0.drew (Blk.new _ _ _)
  have QL := Lib.hid ql
  clear ql hw
  go_region_law (refine step_run rfl (.tmp 30) (.tmp 32) _ rfl _ _ rfl rfl _ _ qrun ?_)
  all_goals
    go_wp2_with (go_at_call 57; refine QL.out.mono ?_; rintro r w4 ⟨rfl, hr4⟩)
    go_ret
    exact ⟨rfl, hr4⟩
/-- put, of the document's store. -/
theorem nPut (s : ByteArray) (en : En) (A : Option Addr) (n c : Nat) (hn : nameB s = true) (hz : es.length ≤ 1000000) (hv : LnsAt K w (.slice A n c) (enL en)) (ho : okE en) (h : RSt U K w x M es) :
    Calls Tryz.prog 52 #[.pointer (some ⟨x, 0, none⟩), .string s, .agg #[.int .i64 en.kind, .slice A n c]] w fun r w' => r = .returned (.int .i64 (ptI M s)) ∧ RTo U K w w' x (ptM M es s) (ptZ M es s en) := by
  unfold ptI ptM ptZ
  cases hh : hasB M s
  · by_cases hr : M.length < 500
    · simp only [Bool.false_eq_true, if_false, if_pos hr]
      exact nPutNew s en A n c hn hh hr hz hv ho h
    · simp only [Bool.false_eq_true, if_false, if_neg hr]
      exact nPutFull s en A n c hh hr h
  · simp only [if_true]
    exact nPutHas s en A n c hh hv ho h
end
end Go.Proofs.YtbedddgfijpbcaaGreat
