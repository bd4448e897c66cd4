/- Walk of the code's stack: Next. -/
import Derived.Test.YtpgkhhchpojlaaaGreatDoorCo
namespace Go.Proofs.YtpgkhhchpojlaaaGreatDoor
open Go.RowKit Go.Maps Go.WideMaps

section
variable {U K : Nat → Prop} {w w' : World} {x r cap : Nat} {zs : List Fv} {fs : List Fr}
theorem ZTo.result {w0 wr : World} (hs0 : w0.heap.size = w.heap.size + 1) (hB0 : Below w.heap.size w w0) (hU : ∀ i, U i → i < w.heap.size) (hK : ∀ i, K i → i < w.heap.size) (h : ZTo U K w0 wr x fs) (hT : Turn (· = w.heap.size) wr w') : ZTo U K w w' x fs := by
  obtain ⟨U1, K1, h1, h2, h3, h4⟩ := h
  refine ⟨U1, K1, h1.turn hT (fun i hi e => ?_) (fun i hi e => ?_), ((Turn.of_below hB0 : Turn U w w0).trans h2 (fun _ _ h => h)).trans hT (fun i hi e => by omega), fun i hi => ?_, fun i hi => ?_⟩
  · rcases h3 i hi with h | h
    · have := hU i h; omega
    · omega
  · rcases h4 i hi with h | h
    · have := hK i h; omega
    · omega
  · rcases h3 i hi with h | h
    · exact .inl h
    · exact .inr (by omega)
  · rcases h4 i hi with h | h
    · exact .inl h
    · exact .inr (by omega)
set_option maxRecDepth 100000 in
set_option maxHeartbeats 2000000 in
/-- Next, without a line left. -/
theorem cNextNo (h : CKt U K w x fs) (hq : liveN fs = 0) : Calls Tryz.prog 17 #[.pointer (some ⟨x, 0, none⟩)] w fun e w' => LnOut w w' e (nxL fs) (nxE fs) ∧ ZTo U K w w' x (nxF fs) := by
  obtain ⟨w0, hw0⟩ : ∃ w0, w0 = w.alloc (.cells #[.string ⟨#[]⟩, .bool false, .int .i64 0, .int .i64 0, .slice none 0 0] 31) := ⟨_, rfl⟩
  have hB0 : Below w.heap.size w w0 := by rw [hw0]; exact (Below.refl _ _).alloc (Nat.le_refl _) _
  have hs0 : w0.heap.size = w.heap.size + 1 := by rw [hw0]; simp
  have hrb : Blk w0 w.heap.size 31 #[.string ⟨#[]⟩, .bool false, .int .i64 0, .int .i64 0, .slice none 0 0] := by rw [hw0]; exact Blk.new _ _ _
  have HZ := Lib.hid (h.unmade hB0)
  have hs := h.sets
  have HE := Lib.hid (live_no hq)
  have HF : Hid (nxF fs = []) := Lib.hid (by unfold nxF; rw [hq]; rfl)
  obtain ⟨zs, r, cap, h, rfl⟩ := h
  have HT := Lib.hid (cTop0 (h.below hB0) eUnread aUnread hq)
  have HC : Hid (∀ w1, Below w0.heap.size w0 w1 → Calls Tryz.prog 51 #[.pointer (some ⟨x, 0, none⟩), .int .i64 0] w1 fun e w' => e = .returned (.tuple #[]) ∧ ZTo U K w0 w' x [] ∧ Blk w' w.heap.size 31 #[.string ⟨#[]⟩, .bool false, .int .i64 0, .int .i64 0, .slice none 0 0] ∧ w.heap.size ≤ w'.heap.size) := Lib.hid (fun w1 hb => by
    refine (cCutS ((h.below hB0).below hb) (n := 0) (Nat.zero_le _)).mono ?_
    rintro e w' ⟨rfl, hc, hT⟩
    exact ⟨rfl, ZTo.of_cut hb hc hT, hT.blk (hrb.below hb hrb.lt) (fun hu => by have := hs.2.1 _ hu; omega), by have := hT.size; have := hb.size; omega⟩)
  have HFin := Lib.hid (fun (w1 w' : World) (h1 : ZTo U K w0 w1 x []) (hT : Turn (· = w.heap.size) w1 w') => ZTo.result hs0 hB0 hs.2.1 hs.2.2.1 h1 hT)
  clear h hq hrb hB0 hs0 hs
  subst hw0
  go_enter Tryz.func17, Tryz.ntmps17
  go_wp2_with (first
    | (go_at_call 41; refine HZ.out.mono ?_; rintro e w1 ⟨rfl, hw⟩; rw [hw]; clear hw)
    | (go_at_call 49; refine HT.out.mono ?_; rintro e w2 ⟨rfl, hb1⟩; have HB1 := Lib.hid hb1; clear hb1)
    | (go_at_call 51; refine (HC.out _ HB1.out).mono ?_; rintro e w3 ⟨rfl, hz, hr0, hsz⟩; have HZ3 := Lib.hid hz; have hf0 := hr0.frozen 0; have hf1 := hr0.frozen 1; have hf2 := hr0.frozen 2; have hf3 := hr0.frozen 3; have hf4 := hr0.frozen 4; have d0 := hr0.cell 0; have d1 := hr0.cell 1; have d2 := hr0.cell 2; have d3 := hr0.cell 3; have d4 := hr0.cell 4; simp only [List.getElem?_toArray, List.getElem?_cons_zero, List.getElem?_cons_succ] at d0 d1 d2 d3 d4; obtain ⟨hT, hR⟩ := res_set hr0 (.string ⟨#[]⟩) (.bool false) (.int .i64 0) (.int .i64 0) (.slice none 0 0); have HR := Lib.hid hR; have HTu := Lib.hid hT; clear hT hR hr0 hz))
  have p0 := HR.out.cell 0
  have p1 := HR.out.cell 1
  have p2 := HR.out.cell 2
  have p3 := HR.out.cell 3
  have p4 := HR.out.cell 4
  simp only [List.getElem?_toArray, List.getElem?_cons_zero, List.getElem?_cons_succ] at p0 p1 p2 p3 p4
  refine bodyPost_ret (v := .tuple #[.agg #[.string ⟨#[]⟩, .bool false, .int .i64 0, .int .i64 0, .slice none 0 0], .int .i64 3]) (by simp [results, Tryz.results17, go_sem, p0, p1, p2, p3, p4]) rfl ⟨⟨.slice none 0 0, ?_, ?_⟩, ?_⟩
  · rw [HE.out.1, HE.out.2]; rfl
  · rw [HE.out.2]; exact RowAt.nil
  · rw [HF.out]; exact HFin.out _ _ HZ3.out HTu.out
set_option maxRecDepth 100000 in
set_option maxHeartbeats 2000000 in
/-- Next, with a line left. -/
theorem cNextYes {q : Nat} (h : CKt U K w x fs) (hq : liveN fs = q + 1) : Calls Tryz.prog 17 #[.pointer (some ⟨x, 0, none⟩)] w fun e w' => LnOut w w' e (nxL fs) (nxE fs) ∧ ZTo U K w w' x (nxF fs) := by
  obtain ⟨w0, hw0⟩ : ∃ w0, w0 = w.alloc (.cells #[.string ⟨#[]⟩, .bool false, .int .i64 0, .int .i64 0, .slice none 0 0] 31) := ⟨_, rfl⟩
  have hB0 : Below w.heap.size w w0 := by rw [hw0]; exact (Below.refl _ _).alloc (Nat.le_refl _) _
  have hs0 : w0.heap.size = w.heap.size + 1 := by rw [hw0]; simp
  have hrb : Blk w0 w.heap.size 31 #[.string ⟨#[]⟩, .bool false, .int .i64 0, .int .i64 0, .slice none 0 0] := by rw [hw0]; exact Blk.new _ _ _
  have HZ := Lib.hid (h.unmade hB0)
  have hs := h.sets
  have HF : Hid (nxF fs = (fs.take (q + 1)).modify q Fr.next) := Lib.hid (by unfold nxF; rw [hq]; rfl)
  obtain ⟨zs, r, cap, h, rfl⟩ := h
  have HT := Lib.hid (cTopS (h.below hB0) eUnread aUnread hq)
  obtain ⟨z, hz, hlt, hlv, _⟩ := top_z (p := Fr.live) hq
  have hzt : (zs.take (q + 1))[q]? = some z := by rw [List.getElem?_take, if_pos (by omega)]; exact hz
  have hlt' : (zs.take (q + 1)).length = q + 1 := by rw [List.length_take]; omega
  obtain ⟨Al, cl, f1, hl1, hl2, hl3⟩ := (h.hold z (List.mem_of_getElem? hz)).1
  have hpl : z.1.pos < z.1.lines.length := by
    unfold Fr.live Fr.over at hlv
    simp at hlv
    exact hlv
  have hpo := (h.okAt hz).lines
  obtain ⟨gl, off, rfl, hKg, hrl⟩ := hl3 (by omega)
  have hlx := List.getElem?_eq_getElem hpl
  have HE := Lib.hid (live_at (fs := zs.map (fun z : Fv => z.1)) hq (get_fr hz) hlx)
  have hlr := hrl z.1.pos _ hlx
  generalize z.1.lines[z.1.pos] = l at hlx hlr HE
  obtain ⟨vb, hvb, hbx⟩ := hlr.c4
  have hs4 := hlr.s4
  obtain ⟨Ab, cb, rfl, _, _, _⟩ := id hbx
  have HC : Hid (∀ w1, Below w0.heap.size w0 w1 → Calls Tryz.prog 51 #[.pointer (some ⟨x, 0, none⟩), .int .i64 ((q + 1 : Nat) : Int)] w1 fun e w2 => e = .returned (.tuple #[]) ∧ w2.cell? ⟨x, 0, none⟩ = some (.slice (some ⟨r, 0, none⟩) (q + 1) cap) ∧ w2.cell? ⟨r, q * 5 + 3, none⟩ = some (.int .i64 (z.1.pos : Nat)) ∧ w2.frozen? ⟨r, q * 5 + 3, none⟩ = false ∧
      ∀ w3, w3 = w2.setCell ⟨r, q * 5 + 3, none⟩ (.int .i64 ((z.1.pos : Int) + 1)) → ZTo U K w0 w3 x (((zs.map (·.1)).take (q + 1)).modify q Fr.next) ∧ Blk w3 w.heap.size 31 #[.string ⟨#[]⟩, .bool false, .int .i64 0, .int .i64 0, .slice none 0 0] ∧ w.heap.size < w3.heap.size ∧
        (∀ w4 w6, Below w3.heap.size w3 w4 → Turn (· = w.heap.size) w4 w6 → w6.cell? ⟨r, q * 5 + 2, none⟩ = some (.slice (some ⟨gl, off, none⟩) z.1.lines.length cl) ∧ w6.cell? ⟨r, q * 5 + 3, none⟩ = some (.int .i64 ((z.1.pos : Int) + 1)) ∧
        w6.cell? ⟨gl, off + z.1.pos * 5, none⟩ = some (.string l.text) ∧ w6.cell? ⟨gl, off + z.1.pos * 5 + 1, none⟩ = some (.bool l.made) ∧ w6.cell? ⟨gl, off + z.1.pos * 5 + 2, none⟩ = some (.int .i64 l.up) ∧ w6.cell? ⟨gl, off + z.1.pos * 5 + 3, none⟩ = some (.int .i64 l.down) ∧ w6.cell? ⟨gl, off + z.1.pos * 5 + 4, none⟩ = some (.slice Ab l.boxes.length cb)) ∧
        (∀ w4, Below w3.heap.size w3 w4 → BxsAt K w4 (.slice Ab l.boxes.length cb) l.boxes ∧ ∀ i, K i → i < w4.heap.size)) := Lib.hid (fun w1 hb => by
    refine (cCut ((h.below hB0).below hb) (n := q + 1) (by omega)).mono ?_
    rintro e w2 ⟨rfl, hc, hT⟩
    have hc3 := (hc.cells hzt).2.2.2.1
    have hc0 := hc.c0
    rw [hlt'] at hc0
    refine ⟨rfl, hc0, hc3, hc.own.frozenAt _, fun w3 hw3 => ?_⟩
    subst hw3
    have hset := turn_set w2 r (q * 5 + 3) (.int .i64 ((z.1.pos : Int) + 1))
    have hnx := hc.next hzt hpl hlt'.symm
    rw [List.map_take] at hnx
    have hT02 : Turn U w0 w2 := (Turn.of_below hb : Turn U w0 w1).trans hT (fun _ _ h => h)
    have hTU : Turn U w0 (w2.setCell ⟨r, q * 5 + 3, none⟩ (.int .i64 ((z.1.pos : Int) + 1))) := hT02.trans hset (fun i _ e => by rw [e]; exact h.uv)
    have hnb : ¬ U w.heap.size := fun hu => by have := h.ul _ hu; omega
    have hsz := hTU.size
    have hkept : ∀ w4, Below (w2.setCell ⟨r, q * 5 + 3, none⟩ (.int .i64 ((z.1.pos : Int) + 1))).heap.size (w2.setCell ⟨r, q * 5 + 3, none⟩ (.int .i64 ((z.1.pos : Int) + 1))) w4 → Kept K w w4 := fun w4 hb4 i hi hil =>
      (hb4.block i (by omega)).trans ((hTU.block i (by omega) (fun hu => h.uk i hu hi)).trans (hB0.block i hil))
    refine ⟨ZTo.trans hT02 (fun _ h => .inl h) (fun _ h => .inl h) hnx, hTU.blk hrb hnb, by omega, fun w4 w6 hb4 hT6 => ?_, fun w4 hb4 => ⟨hbx.stay (hkept w4 hb4) (fun _ h => h), fun i hi => by have := h.kl i hi; have := hb4.size; omega⟩⟩
    have hst := (hc.own.stored (q * 5 + 3) (.int .i64 ((z.1.pos : Int) + 1))).1
    have hst4 := own_turn (S := fun _ => False) hst (Turn.of_below hb4) (fun _ _ => id)
    have hrl : r < w.heap.size := h.ul r h.uv
    have hst6 := own_turn hst4 hT6 (fun k hk e => by injection hk with hk; subst hk; have e : r = w.heap.size := e; omega)
    have hc2' := ckCs_at hzt 2 (by omega)
    have hk6 : Kept K w w6 := fun i hi hil => (hT6.block i (by have := hb4.size; omega) (by show ¬ i = w.heap.size; omega)).trans (hkept w4 hb4 i hi hil)
    have hln := hlr.stay hKg hk6 (fun _ h => h)
    refine ⟨own_cellAt hst6 ?_, own_cellAt hst6 ?_, hln.c0, hln.c1, hln.c2, hln.c3, hk6.cell hKg hvb⟩
    · rw [List.getElem?_set_ne (by omega), hc2']
      show some z.2.1 = _
      rw [f1]
    · rw [List.getElem?_set_self (by rw [ckCs_len, hlt']; omega)])
  have HFin := Lib.hid (fun (w1 w' : World) (h1 : ZTo U K w0 w1 x (((zs.map (·.1)).take (q + 1)).modify q Fr.next)) (hT : Turn (· = w.heap.size) w1 w') => ZTo.result hs0 hB0 hs.2.1 hs.2.2.1 h1 hT)
  have hp0 : IntKind.i64.wrap ((z.1.pos : Int) + 1) = (z.1.pos : Int) + 1 := by rw [IntWalk.i64_in _ (by omega)]
  have hp1 : IntKind.i64.wrap ((z.1.pos : Int) + 1 - 1) = (z.1.pos : Int) := by rw [IntWalk.i64_in _ (by omega)]; omega
  have hp2 : IntKind.i64.wrap ((z.1.pos : Int)) = (z.1.pos : Int) := by rw [IntWalk.i64_in _ (by omega)]
  have hlen := h.len
  have hq1 : IntKind.i64.wrap ((q : Int) + 1) = (q : Int) + 1 := by rw [IntWalk.i64_in _ (by omega)]
  have hpI2 : (z.1.pos : Int) < (z.1.lines.length : Int) := by omega
  have hqI : (q : Int) < ((q + 1 : Nat) : Int) := by omega
  have hpI3 : ¬ (z.1.pos : Int) < 0 := by omega
  have hqI3 : ¬ (q : Int) < 0 := by omega
  clear h hq hrb hB0 hs0 hs hlr hvb hlx hz hzt hrl f1 hl3 hlv hbx
  subst hw0
  go_enter Tryz.func17, Tryz.ntmps17
  go_wp2_with (first
    | (go_at_call 41; refine HZ.out.mono ?_; rintro e w1 ⟨rfl, hw⟩; rw [hw]; clear hw)
    | (go_at_call 49; refine HT.out.mono ?_; rintro e w2 ⟨rfl, hb1⟩; have HB1 := Lib.hid hb1; clear hb1)
    | (go_at_call 51; refine (HC.out _ HB1.out).mono ?_; rintro e w3 ⟨rfl, g0, g3, gf, hmore⟩; have HM := Lib.hid (hmore _ rfl); clear hmore))
  obtain ⟨hz3, hr3, hbs3, hcell, hbx⟩ := HM.out
  have HZ3 := Lib.hid hz3
  have HR3 := Lib.hid hr3
  have HBs := Lib.hid hbs3
  have HCell := Lib.hid hcell
  have HBx0 := Lib.hid hbx
  clear hz3 hr3 hbs3 hcell hbx HM HC g0 g3 gf hqI hlt'
  generalize w3.setCell ⟨r, q * 5 + 3, none⟩ (.int .i64 ((z.1.pos : Int) + 1)) = w4 at *
  have HD : Hid (Below w4.heap.size w4 w4.drew) := Lib.hid ((Below.refl _ _).drew)
  have HOwn := Lib.hid (cCopyLn K l.text l.made l.up l.down (.slice Ab l.boxes.length cb) l.boxes w4.drew (HBx0.out _ HD.out).1 (HBx0.out _ HD.out).2 hs4)
  go_region_held3 (fun w1 => w1.cell? ⟨r, q * 5 + 2, none⟩ = some (.slice (some ⟨gl, off, none⟩) z.1.lines.length cl) ∧ w1.cell? ⟨r, q * 5 + 3, none⟩ = some (.int .i64 ((z.1.pos : Int) + 1)) ∧
      w1.cell? ⟨gl, off + z.1.pos * 5, none⟩ = some (.string l.text) ∧ w1.cell? ⟨gl, off + z.1.pos * 5 + 1, none⟩ = some (.bool l.made) ∧ w1.cell? ⟨gl, off + z.1.pos * 5 + 2, none⟩ = some (.int .i64 l.up) ∧ w1.cell? ⟨gl, off + z.1.pos * 5 + 3, none⟩ = some (.int .i64 l.down) ∧ w1.cell? ⟨gl, off + z.1.pos * 5 + 4, none⟩ = some (.slice Ab l.boxes.length cb))
    (first | exact HCell.out _ _ HD.out (Turn.refl _ _) | exact HCell.out _ _ HB5.out HT6.out | exact HCell.out _ _ HB5.out (Turn.refl _ _))
    (first
      | (go_at_call 52; refine HOwn.out.mono ?_; rintro e w5 ⟨A5, c5, rfl, hbx5, hb5⟩; have HB5 := Lib.hid (HD.out.trans hb5); have hr5 : Blk w5 w.heap.size 31 #[.string ⟨#[]⟩, .bool false, .int .i64 0, .int .i64 0, .slice none 0 0] := HR3.out.below HB5.out HR3.out.lt; have hf0 := hr5.frozen 0; have hf1 := hr5.frozen 1; have hf2 := hr5.frozen 2; have hf3 := hr5.frozen 3; have hf4 := hr5.frozen 4; have d0 := hr5.cell 0; have d1 := hr5.cell 1; have d2 := hr5.cell 2; have d3 := hr5.cell 3; have d4 := hr5.cell 4; simp only [List.getElem?_toArray, List.getElem?_cons_zero, List.getElem?_cons_succ] at d0 d1 d2 d3 d4; obtain ⟨hT6, hR6⟩ := res_set hr5 (.string l.text) (.bool l.made) (.int .i64 l.up) (.int .i64 l.down) (.slice A5 l.boxes.length c5); have HT6 := Lib.hid hT6; have HR6 := Lib.hid hR6; clear hr5 hT6 hR6; have HBx := Lib.hid hbx5; clear hbx5 hb5))
  go_wp2_with fail
  have p0 := HR6.out.cell 0
  have p1 := HR6.out.cell 1
  have p2 := HR6.out.cell 2
  have p3 := HR6.out.cell 3
  have p4 := HR6.out.cell 4
  simp only [List.getElem?_toArray, List.getElem?_cons_zero, List.getElem?_cons_succ] at p0 p1 p2 p3 p4
  refine bodyPost_ret (v := .tuple #[.agg #[.string l.text, .bool l.made, .int .i64 l.up, .int .i64 l.down, .slice A5 l.boxes.length c5], .int .i64 0]) (by simp [results, Tryz.results17, go_sem, p0, p1, p2, p3, p4]) rfl ⟨⟨.slice A5 l.boxes.length c5, ?_, ?_⟩, ?_⟩
  · rw [HE.out.1, HE.out.2]
  · rw [HE.out.2]
    exact HBx.out.stay (Kept.of_turn HT6.out (fun i hi e => by have h9 : w4.heap.size ≤ i := hi.1; have := HBs.out; omega)) (fun i hi => ⟨by have h9 : w4.heap.size ≤ i := hi.1; have := HBs.out; omega, Nat.lt_of_lt_of_le hi.2 HT6.out.size⟩)
  · rw [HF.out]
    exact HFin.out _ _ (HZ3.out.then_ HB5.out) HT6.out
/-- Next. -/
theorem cNext (h : CKt U K w x fs) : Calls Tryz.prog 17 #[.pointer (some ⟨x, 0, none⟩)] w fun e w' => LnOut w w' e (nxL fs) (nxE fs) ∧ ZTo U K w w' x (nxF fs) := by
  cases hq : liveN fs with
  | zero => exact cNextNo h hq
  | succ q => exact cNextYes h hq
end
end Go.Proofs.YtpgkhhchpojlaaaGreatDoor
