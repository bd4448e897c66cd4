/- Walk of the document's stack: Next. -/
import Derived.Test.YtpgkhhchpojlaaaGreatDoorKz
import Derived.Test.YtpgkhhchpojlaaaGreatDoorKh
import Derived.Deep.LoopGhost
import Derived.Deep.RegionLaw
import Derived.Deep.RegionHeldLaw
namespace Go.Proofs.YtpgkhhchpojlaaaGreatDoor
open Go.RowKit Go.Maps Go.WideMaps

section
variable {U K : Nat → Prop} {w w' : World} {x : Nat} {fs : List Fr}
/-- The stack loses frames from the top, while it is gone over. -/
def NxRel (U K : Nat → Prop) (w0 : World) (x : Nat) (fs : List Fr) (b : Nat) (m : Nat) (wr : World) : Prop :=
  m ≤ fs.length ∧ KTo U K w0 wr x (fs.take m) ∧ Blk wr b 31 #[.string ⟨#[]⟩, .bool false, .int .i64 0, .int .i64 0, .slice none 0 0] ∧ Turn U w0 wr ∧ ∀ (j : Nat) f, m ≤ j → fs[j]? = some f → f.live = false
theorem KTo.then_ {w1 : World} (h : KTo U K w w1 x fs) (hb : Below w1.heap.size w1 w') : KTo U K w w' x fs := by
  obtain ⟨U1, K1, h1, h2, h3, h4⟩ := h
  exact ⟨U1, K1, h1.below hb, h2.trans (Turn.of_below hb : Turn U w1 w') (fun _ _ h => h), h3, h4⟩
theorem KTo.result {w0 wr : World} (hs0 : w0.heap.size = w.heap.size + 1) (hB0 : Below w.heap.size w w0) (hU : ∀ i, U i → i < w.heap.size) (hK : ∀ i, K i → i < w.heap.size) (h : KTo U K w0 wr x fs) (hT : Turn (· = w.heap.size) wr w') : KTo U K w w' x fs := by
  obtain ⟨U1, K1, h1, h2, h3, h4⟩ := h
  refine ⟨U1, K1, h1.turn hT (fun i hi e => ?_) (fun i hi e => ?_), ((Turn.of_below hB0 : Turn U w w0).trans h2 (fun _ _ h => h)).trans hT (fun i hi e => by omega), fun i hi => ?_, fun i hi => ?_⟩
  · rcases h3 i hi with h | h
    · have := hU i h; omega
    · omega
  · rcases h4 i hi with h | h
    · have := hK i h; omega
    · omega
  · rcases h3 i hi with h | h
    · exact .inl h
    · exact .inr (by omega)
  · rcases h4 i hi with h | h
    · exact .inl h
    · exact .inr (by omega)
set_option maxRecDepth 100000 in
set_option maxHeartbeats 1600000 in
/-- Next. -/
theorem nNext (h : RKt U K w x fs) :
    Calls Tryz.prog 27 #[.pointer (some ⟨x, 0, none⟩)] w fun e w' => LnOut w w' e (nxL fs) (nxE fs) ∧ KTo U K w w' x (nxF fs) := by
  obtain ⟨w0, hw0⟩ : ∃ w0, w0 = w.alloc (.cells #[.string ⟨#[]⟩, .bool false, .int .i64 0, .int .i64 0, .slice none 0 0] 31) := ⟨_, rfl⟩
  have hB0 : Below w.heap.size w w0 := by rw [hw0]; exact (Below.refl _ _).alloc (Nat.le_refl _) _
  have hs0 : w0.heap.size = w.heap.size + 1 := by rw [hw0]; simp
  have hrb : Blk w0 w.heap.size 31 #[.string ⟨#[]⟩, .bool false, .int .i64 0, .int .i64 0, .slice none 0 0] := by rw [hw0]; exact Blk.new _ _ _
  have HN := Lib.hid (nNo (h.below hB0))
  have h0 := h.below hB0
  have HStart : Hid (NxRel U K w0 x fs w.heap.size fs.length w0) := Lib.hid ⟨Nat.le_refl _, by rw [List.take_length]; exact KTo.same h0 (Below.refl _ _), hrb, Turn.refl _ _, fun j f hj hf => by
    have := (List.getElem?_eq_some_iff.1 hf).1
    omega⟩
  have HOk := Lib.hid h.ok
  have HU := Lib.hid (fun i (hi : U i) => h.sets.2.1 i hi)
  have HK := Lib.hid (fun i (hi : K i) => h.sets.2.2.1 i hi)
  have HB0 := Lib.hid hB0
  clear h h0 hrb hB0
  go_enter Tryz.func27, Tryz.ntmps27
  subst hw0
  go_wp2_with (go_at_call 43; refine HN.out.mono ?_; rintro e w1 ⟨rfl, rfl⟩)
  generalize w.alloc (.cells #[.string ⟨#[]⟩, .bool false, .int .i64 0, .int .i64 0, .slice none 0 0] 31) = w0 at *
  go_loopg [] fs.length (fun m wr => NxRel U K w0 x fs w.heap.size m wr)
  case atStart => exact HStart.out
  case round =>
    obtain ⟨hm, hk, hr0, hT, hall⟩ := hrel
    have HAll := Lib.hid hall
    clear hall
    have HKT := Lib.hid hk
    obtain ⟨U1, K1, ⟨zs, v, hR, hzs⟩, hT1, hU1, hK1⟩ := hk
    obtain ⟨A, cap, rfl, hcap, hA⟩ := own_form2 hR.own
    have hlen : zs.length = gk := by have := congrArg List.length hzs; rw [List.length_map, List.length_take] at this; omega
    have c1 := hR.c1
    rw [hlen] at c1 hcap hA
    rcases gk with _ | q
    · have hn : liveN fs = 0 := topN_of (Nat.zero_le _) HAll.out (fun h => absurd h (Nat.lt_irrefl 0))
      have HE := Lib.hid (live_no hn)
      have hf0 := hr0.frozen 0
      have hf1 := hr0.frozen 1
      have hf2 := hr0.frozen 2
      have hf3 := hr0.frozen 3
      have hf4 := hr0.frozen 4
      have d0 := hr0.cell 0
      have d1 := hr0.cell 1
      have d2 := hr0.cell 2
      have d3 := hr0.cell 3
      have d4 := hr0.cell 4
      simp only [List.getElem?_toArray, List.getElem?_cons_zero, List.getElem?_cons_succ] at d0 d1 d2 d3 d4
      go_wp2_with fail
      go_quiet (fail)
      go_wp2_with fail
      obtain ⟨hT6, hR6⟩ := res_set (show Blk (wr.drewN nq) w.heap.size 31 _ from hr0.drewN nq) (.string ⟨#[]⟩) (.bool false) (.int .i64 0) (.int .i64 0) (.slice none 0 0)
      have p0 := hR6.cell 0
      have p1 := hR6.cell 1
      have p2 := hR6.cell 2
      have p3 := hR6.cell 3
      have p4 := hR6.cell 4
      simp only [List.getElem?_toArray, List.getElem?_cons_zero, List.getElem?_cons_succ] at p0 p1 p2 p3 p4
      refine bodyPost_ret (v := .tuple #[.agg #[.string ⟨#[]⟩, .bool false, .int .i64 0, .int .i64 0, .slice none 0 0], .int .i64 3]) (by simp [results, Tryz.results27, go_sem, p0, p1, p2, p3, p4]) rfl ⟨⟨.slice none 0 0, ?_, ?_⟩, ?_⟩
      · rw [HE.out.1, HE.out.2]; rfl
      · rw [HE.out.2]; exact RowAt.nil
      · have e : nxF fs = fs.take 0 := by unfold nxF; rw [hn]; rfl
        rw [e]
        exact KTo.result hs0 HB0.out HU.out HK.out HKT.out ((Turn.of_below (below_drewN (Below.refl _ _) _) : Turn (· = w.heap.size) wr _).trans hT6 (fun _ _ h => h))
    · obtain ⟨g, rfl⟩ := hA (by omega)
      have hz := List.getElem?_eq_getElem (show q < zs.length by omega)
      generalize zs[q] = z at hz
      have hfq : fs[q]? = some z.1 := by
        have := get_fr hz
        rw [hzs, List.getElem?_take, if_pos (by omega)] at this
        exact this
      obtain ⟨HZ1, HZ2⟩ := hR.hold z (List.mem_of_getElem? hz)
      obtain ⟨Al, cl, f1, hl1, hl2, hl3⟩ := HZ1
      obtain ⟨As, cs, f2, _⟩ := HZ2
      have hcell : ∀ w1, Below wr.heap.size wr w1 → w1.cell? ⟨x, 1, none⟩ = some (.slice (some ⟨g, 0, none⟩) (q + 1) cap) ∧ w1.cell? ⟨g, q * 5, none⟩ = some (.int .i64 z.1.kind) ∧ w1.cell? ⟨g, q * 5 + 1, none⟩ = some (.string z.1.name) ∧ w1.cell? ⟨g, q * 5 + 2, none⟩ = some (.slice Al z.1.lines.length cl) ∧ w1.cell? ⟨g, q * 5 + 3, none⟩ = some (.slice As z.1.args.length cs) ∧ w1.cell? ⟨g, q * 5 + 4, none⟩ = some (.int .i64 (z.1.pos : Nat)) := fun w1 hb1 => by
        have hR1 := hR.below hb1
        have := hR1.cells hz
        rw [f1, f2] at this
        have h1 := hR1.c1
        rw [hlen] at h1
        exact ⟨h1, this⟩
      have HCell := Lib.hid hcell
      have HOver := Lib.hid (fun w1 => nOver z.1.kind z.1.name Al z.1.lines.length cl As z.1.args.length cs z.1.pos w1)
      have hqI : (q : Int) < ((q + 1 : Nat) : Int) := by omega
      have hqI3 : ¬ (q : Int) < 0 := by omega
      have hqp : (0 : Int) < ((q + 1 : Nat) : Int) := by omega
      have hqs : ((q + 1 : Nat) : Int) - 1 = q := by omega
      have hgl := HOk.out.1
      have hq5 : (q : Int) + 1 - 1 = q := by omega
      have hq6 : (q : Int) < (q : Int) + 1 := by omega
      have hq7 : q < q + 1 := by omega
      have hqc : (q : Int) ≤ (cap : Int) := by omega
      have hqc2 : q ≤ cap := by omega
      have hq0 : (0 : Int) ≤ (q : Int) := by omega
      have hwr : IntKind.i64.wrap (q : Int) = q := IntWalk.i64_in _ (by omega)
      have hwr2 : IntKind.i64.wrap ((q : Int) + 1 - 1) = q := by rw [hq5]; exact hwr
      have hwr3 : IntKind.i64.wrap (((q + 1 : Nat) : Int) - 1) = q := by rw [hqs]; exact hwr
      by_cases ho : z.1.lines.length ≤ z.1.pos
      · rw [decide_eq_true ho] at HOver
        go_wp2_with fail
        go_region_held3 (fun w1 => w1.cell? ⟨x, 1, none⟩ = some (.slice (some ⟨g, 0, none⟩) (q + 1) cap) ∧ w1.cell? ⟨g, q * 5, none⟩ = some (.int .i64 z.1.kind) ∧ w1.cell? ⟨g, q * 5 + 1, none⟩ = some (.string z.1.name) ∧ w1.cell? ⟨g, q * 5 + 2, none⟩ = some (.slice Al z.1.lines.length cl) ∧ w1.cell? ⟨g, q * 5 + 3, none⟩ = some (.slice As z.1.args.length cs) ∧ w1.cell? ⟨g, q * 5 + 4, none⟩ = some (.int .i64 (z.1.pos : Nat)))
          (first | exact HCell.out _ (Below.refl _ _) | exact HCell.out _ (Below.refl _ _).drew | exact HCell.out _ HB4.out)
          (first
            | (go_at_call 62; refine (HOver.out _).mono ?_; rintro e w4 ⟨rfl, hb4⟩; have HB4 := Lib.hid ((Below.refl wr.heap.size wr).drew.trans hb4); clear hb4))
        have HR4 := Lib.hid (hR.below HB4.out)
        obtain ⟨v3, w3, qrun, hown3, hb3, A3, c3, rfl⟩ := runCopy (t := 50) (bytes := 80) Tryz.underlying50 frame_info rfl (by omega) w4.drew 50 (some ⟨g, 0, none⟩) q cap (rkCs (zs.take q)) (by rw [rkCs_len, List.length_take, Nat.min_eq_left (by omega)])
          (fun _ => ⟨g, 0, rfl, fun j u hu => by
            rw [Nat.zero_add]
            have h9 := (HR4.out.below ((Below.refl _ _).drew)).own
            rw [rkCs_take] at hu
            have hj := (List.getElem?_eq_some_iff.1 hu).1
            rw [List.getElem?_take, if_pos (by rw [List.length_take] at hj; omega)] at hu
            exact own_cellAt h9 hu⟩) (fun u hu => one_all (zs := zs) (fun z hz => HR4.out.hold z hz) u (by rw [rkCs_take] at hu; exact List.mem_of_mem_take hu)) (by omega) (by omega)
        have hb43 : Below w4.heap.size w4 w3 := ((Below.refl _ _).drew).trans hb3
        have HF := Lib.hid (show KTo U1 K1 w4 (w3.setCell ⟨x, 1, none⟩ (.slice A3 q c3)) x ((zs.take q).map (·.1)) from HR4.out.lay (B := w4.heap.size) hb43 (Nat.le_refl _) (by rw [List.length_take, Nat.min_eq_left (by omega)]; exact hown3) (fun z hz => (HR4.out.hold z (List.mem_of_mem_take hz)).stay (Kept.of_all hb43) (fun _ h => h)) (by rw [List.map_take]; exact HR4.out.ok.take q))
        have hx1 := (HR4.out.below hb43).c1
        rw [hlen] at hx1
        have hx2 := (HR4.out.below hb43).f1
        have k1 := (HCell.out _ HB4.out).1
        have k2 : (w4.alloc (.cells #[] 64)).cell? ⟨x, 1, none⟩ = some (.slice (some ⟨g, 0, none⟩) (q + 1) cap) := (HCell.out _ (HB4.out.alloc HB4.out.size _)).1
        have HRel : Hid (NxRel U K w0 x fs w.heap.size q (w3.setCell ⟨x, 1, none⟩ (.slice A3 q c3))) := Lib.hid (by
          have e : (zs.take q).map (fun z : Fv => z.1) = fs.take q := by
            rw [List.map_take, hzs, List.take_take, Nat.min_eq_left (by omega)]
          have hk := HF.out
          rw [e] at hk
          have hk2 := KTo.from_ HB4.out hk
          obtain ⟨_, _, _, hT2, _, _⟩ := id hk2
          have hk3 := KTo.trans hT1 hU1 hK1 hk2
          obtain ⟨_, _, _, hT3, _, _⟩ := id hk3
          refine ⟨by omega, hk3, hT2.blk hr0 (fun hu => ?_), hT3, fun j f hj hf => ?_⟩
          · rcases hU1 _ hu with h9 | h9
            · have := HU.out _ h9; omega
            · omega
          · by_cases e2 : j = q
            · subst e2
              rw [hfq] at hf
              injection hf with hf
              subst hf
              unfold Fr.live Fr.over
              rw [decide_eq_true ho]; rfl
            · exact HAll.out j f (by omega) hf)
        clear c1 hown3 hb3 hb43 hz
        go_wp2_with fail
        go_region_law
          (refine step_run rfl (.tmp 30) (.tmp 41) _ rfl _ _ rfl rfl _ _ qrun ?_)
        all_goals
          go_wp2_with fail
          go_roundg q
          case measure => omega
          case rel => exact HRel.out
      · rw [decide_eq_false ho] at HOver
        have hn : liveN fs = q + 1 := topN_of hm HAll.out (fun _ => ⟨z.1, hfq, by unfold Fr.live Fr.over; rw [decide_eq_false ho]; rfl⟩)
        obtain ⟨gl, off, rfl, hKg, hrl⟩ := hl3 (by omega)
        have hlx := List.getElem?_eq_getElem (show z.1.pos < z.1.lines.length by omega)
        have HE := Lib.hid (live_at hn hfq hlx)
        have hlr := hrl z.1.pos _ hlx
        generalize z.1.lines[z.1.pos] = l at hlx hlr HE
        obtain ⟨vb, hvb, hbx⟩ := hlr.c4
        obtain ⟨Ab, cb, rfl, hb1', hb2', _⟩ := id hbx
        have hzok := hR.okAt hz
        have hpl := hzok.lines
        have hp0 : IntKind.i64.wrap ((z.1.pos : Int) + 1) = (z.1.pos : Int) + 1 := by rw [IntWalk.i64_in _ (by omega)]
        have hp1 : IntKind.i64.wrap ((z.1.pos : Int) + 1 - 1) = (z.1.pos : Int) := by rw [IntWalk.i64_in _ (by omega)]; omega
        have hp2 : IntKind.i64.wrap ((z.1.pos : Int)) = (z.1.pos : Int) := by rw [IntWalk.i64_in _ (by omega)]
        have hp3 : (z.1.pos : Int) < (z.1.lines.length : Int) := by omega
        have hp4 : ¬ (z.1.pos : Int) < 0 := by omega
        have hgU := hR.uv g rfl
        have hgw : g ≠ w.heap.size := fun e => by
          rcases hU1 g hgU with h9 | h9
          · have := HU.out _ h9; omega
          · omega
        have hKw : ∀ i, K1 i → i ≠ w.heap.size ∧ i ≠ g := fun i hi => ⟨fun e => by
          rcases hK1 i hi with h9 | h9
          · have := HK.out _ h9; omega
          · omega, fun e => hR.uk g hgU (e ▸ hi)⟩
        have hzs1 : (zs.map (fun z : Fv => z.1)).modify q Fr.next = nxF fs := by
          unfold nxF
          rw [hn, Nat.add_sub_cancel, hzs]
        have hRd : ∀ (w4 : World) (n : Nat), Below wr.heap.size wr w4 → RK U1 K1 (w4.drewN n) x zs (.slice (some ⟨g, 0, none⟩) zs.length cap) := fun w4 n hb => by
          exact hR.below (below_drewN hb n)
        have HPut : Hid (∀ (w4 : World) (n : Nat), Below wr.heap.size wr w4 → KTo U1 K1 wr ((w4.drewN n).setCell ⟨g, q * 5 + 4, none⟩ (.int .i64 ((z.1.pos : Int) + 1))) x (nxF fs) ∧ (w4.drewN n).frozen? ⟨g, q * 5 + 4, none⟩ = false) := Lib.hid (fun w4 n hb => by
          have h9 := hRd w4 n hb
          refine ⟨KTo.from_ (below_drewN hb n) ?_, h9.own.frozenAt _⟩
          have hqz : q < zs.length := by omega
          have := h9.put (zs' := zs.modify q (fun z => (z.1.next, z.2))) (k := q) (j := 4) (u := .int .i64 ((z.1.pos + 1 : Nat) : Int)) (by rw [List.length_modify]) (rkCs_next hqz hz rfl) (fun y hy => ?_) ?_
          · rw [map_modify_fst (t := Fr.next) (fun _ => rfl), hzs1] at this
            exact this
          · obtain ⟨k, hk⟩ := List.getElem?_of_mem hy
            rw [List.getElem?_modify] at hk
            cases hzk : zs[k]? with
            | none => rw [hzk] at hk; cases hk
            | some y0 =>
              rw [hzk] at hk
              have hh := h9.hold y0 (List.mem_of_getElem? hzk)
              by_cases e : q = k
              · simp [e] at hk
                rw [← hk]; exact hh
              · simp [e] at hk
                rw [← hk]; exact hh
          · rw [map_modify_fst (t := Fr.next) (fun _ => rfl)]
            refine ⟨by rw [List.length_modify]; exact h9.ok.1, fun f hf => ?_⟩
            rcases mem_modify hf with hf | ⟨f0, h1, rfl⟩
            · exact h9.ok.2 f hf
            · have h8 := get_fr hz
              rw [h8] at h1
              injection h1 with h1
              rw [← h1]
              exact ⟨hzok.kind, hzok.name, hzok.lines, hzok.args, by show z.1.pos + 1 ≤ z.1.lines.length; omega⟩)
        have HC9 : Hid (∀ (w4 : World) (n : Nat) (w6 : World), Below wr.heap.size wr w4 → Turn (· = w.heap.size) ((w4.drewN n).setCell ⟨g, q * 5 + 4, none⟩ (.int .i64 ((z.1.pos : Int) + 1))) w6 → (w6.cell? ⟨g, q * 5 + 2, none⟩ = some (.slice (some ⟨gl, off, none⟩) z.1.lines.length cl) ∧ w6.cell? ⟨g, q * 5 + 4, none⟩ = some (.int .i64 ((z.1.pos : Int) + 1)) ∧ w6.cell? ⟨gl, off + z.1.pos * 5, none⟩ = some (.string l.text) ∧ w6.cell? ⟨gl, off + z.1.pos * 5 + 1, none⟩ = some (.bool l.made) ∧ w6.cell? ⟨gl, off + z.1.pos * 5 + 2, none⟩ = some (.int .i64 l.up) ∧ w6.cell? ⟨gl, off + z.1.pos * 5 + 3, none⟩ = some (.int .i64 l.down) ∧ w6.cell? ⟨gl, off + z.1.pos * 5 + 4, none⟩ = some (.slice Ab l.boxes.length cb)) ∧ BxsAt K1 w6 (.slice Ab l.boxes.length cb) l.boxes) := Lib.hid (fun w4 n w6 hb hT6 => by
          have h9 := hRd w4 n hb
          have hsz := (below_drewN hb n).size
          have hset := turn_set (w4.drewN n) g (q * 5 + 4) (.int .i64 ((z.1.pos : Int) + 1))
          have hkept : Kept K1 wr w6 := fun i hi hil => by
            obtain ⟨e1, e2⟩ := hKw i hi
            exact (hT6.block i (by have := hset.size; omega) e1).trans ((hset.block i (by omega) e2).trans ((below_drewN hb n).block i hil))
          have hln := hlr.stay hKg hkept (fun _ h => h)
          have hst := (h9.own.stored (q * 5 + 4) (.int .i64 ((z.1.pos : Int) + 1))).1
          have hst6 := own_turn hst hT6 (fun k hk => by injection hk with hk; rw [← hk]; exact hgw)
          have hc2 := rkCs_at hz 2 (by omega)
          have hc4 := rkCs_at hz 4 (by omega)
          refine ⟨⟨own_cellAt hst6 ?_, own_cellAt hst6 ?_, hln.c0, hln.c1, hln.c2, hln.c3, ?_⟩, hbx.stay hkept (fun _ h => h)⟩
          · rw [List.getElem?_set_ne (by omega), hc2]
            show some z.2.1 = _
            rw [f1]
          · rw [List.getElem?_set_self (by rw [rkCs_len]; omega)]
          · exact hkept.cell hKg hvb)
        have hR0 := Lib.hid hr0
        have HKtr := Lib.hid (fun (w6 : World) (h9 : KTo U1 K1 wr w6 x (nxF fs)) => KTo.trans hT1 hU1 hK1 h9)
        have HK1l := Lib.hid (fun (w4 : World) (hb : Below wr.heap.size wr w4) i (hi : K1 i) => Nat.lt_of_lt_of_le (hR.kl i hi) hb.size)
        have HUw := Lib.hid (fun (hu : U1 w.heap.size) => (show False by
          rcases hU1 _ hu with h9 | h9
          · have := HU.out _ h9; omega
          · omega))
        have hs4 := hlr.s4
        clear hRd hzs1 hzok hR hr0
        clear hrl hlr hvb hlx hbx
        go_wp2_with fail
        go_region_held3 (fun w1 => w1.cell? ⟨x, 1, none⟩ = some (.slice (some ⟨g, 0, none⟩) (q + 1) cap) ∧ w1.cell? ⟨g, q * 5, none⟩ = some (.int .i64 z.1.kind) ∧ w1.cell? ⟨g, q * 5 + 1, none⟩ = some (.string z.1.name) ∧ w1.cell? ⟨g, q * 5 + 2, none⟩ = some (.slice (some ⟨gl, off, none⟩) z.1.lines.length cl) ∧ w1.cell? ⟨g, q * 5 + 3, none⟩ = some (.slice As z.1.args.length cs) ∧ w1.cell? ⟨g, q * 5 + 4, none⟩ = some (.int .i64 (z.1.pos : Nat)))
          (first | exact HCell.out _ (Below.refl _ _) | exact HCell.out _ (Below.refl _ _).drew | exact HCell.out _ HB4.out)
          (first
            | (go_at_call 62; refine (HOver.out _).mono ?_; rintro e w4 ⟨rfl, hb4⟩; have HB4 := Lib.hid ((Below.refl wr.heap.size wr).drew.trans hb4); clear hb4))
        have hc4 := HCell.out _ HB4.out
        obtain ⟨k1, k2, k3, k4, k5, k6⟩ := hc4
        have hfz : w4.frozen? ⟨g, q * 5 + 4, none⟩ = false := (HPut.out w4 0 HB4.out).2
        have hq10 : ((q : Int) + 1 == 0) = false := by simp; omega
        clear c1
        go_wp2_with fail
        go_quiet (fail)
        go_wp2_with fail
        have HP := Lib.hid (HPut.out w4 nq HB4.out).1
        have HC := Lib.hid (fun w6 h => HC9.out w4 nq w6 HB4.out h)
        have hsz4 := HB4.out.size
        have hszr := hR0.out.lt
        obtain ⟨w5, hw5⟩ : ∃ w5, w5 = ((w4.drewN nq).setCell ⟨g, q * 5 + 4, none⟩ (.int .i64 ((z.1.pos : Int) + 1))) := ⟨_, rfl⟩
        rw [← hw5] at HP HC ⊢
        have hr5 : Blk w5 w.heap.size 31 #[.string ⟨#[]⟩, .bool false, .int .i64 0, .int .i64 0, .slice none 0 0] := by
          obtain ⟨_, _, _, hT9, _, _⟩ := id HP.out
          exact hT9.blk hR0.out (fun hu => HUw.out hu)
        have HR5 := Lib.hid hr5
        have HOwn := Lib.hid (nOwn l.text l.made l.up l.down (.slice Ab l.boxes.length cb) l.boxes (w := w5.drew) (K := K1) ((HC.out w5.drew (Turn.of_below ((Below.refl _ _).drew))).2) (fun i hi => by have := HK1l.out _ (Below.refl _ _) i hi; have h8 : wr.heap.size ≤ w5.heap.size := (by obtain ⟨_, _, _, hT9, _, _⟩ := id HP.out; exact hT9.size); exact Nat.lt_of_lt_of_le this h8) hs4)
        clear hw5 hr5 HC9 HPut k1 k2 k3 k4 k5 k6 hfz hq10
        obtain ⟨⟨k1, k2, k3, k4, k5, k6, k7⟩, _⟩ := HC.out w5 (Turn.refl _ _)
        go_still_tail 11, (by kernel_rfl)
        change wpList _ _ _ _ _ w5.drew
        go_wp2_with (go_at_call 63; refine HOwn.out.mono ?_; rintro e w6 ⟨v6, rfl, hbx6, hb6⟩; obtain ⟨A6, n6, c6, rfl⟩ : ∃ A n c, v6 = .slice A n c := (by obtain ⟨A, c, e, _⟩ := hbx6; exact ⟨A, _, c, e⟩); have hr6 : Blk w6 w.heap.size 31 #[.string ⟨#[]⟩, .bool false, .int .i64 0, .int .i64 0, .slice none 0 0] := (hb6.block w.heap.size HR5.out.lt).trans HR5.out; have hf0 := hr6.frozen 0; have hf1 := hr6.frozen 1; have hf2 := hr6.frozen 2; have hf3 := hr6.frozen 3; have hf4 := hr6.frozen 4; have d0 := hr6.cell 0; have d1 := hr6.cell 1; have d2 := hr6.cell 2; have d3 := hr6.cell 3; have d4 := hr6.cell 4; simp only [List.getElem?_toArray, List.getElem?_cons_zero, List.getElem?_cons_succ] at d0 d1 d2 d3 d4; have HB6 := Lib.hid (((Below.refl w5.heap.size w5).drew).trans hb6); obtain ⟨hT6, hR6⟩ := res_set hr6 (.string l.text) (.bool l.made) (.int .i64 l.up) (.int .i64 l.down) (.slice A6 n6 c6); have HT7 := Lib.hid ((Turn.of_below HB6.out : Turn (· = w.heap.size) w5 w6).trans hT6 (fun _ _ h => h)); have HT6 := Lib.hid hT6; have HR6 := Lib.hid hR6; have HBx := Lib.hid hbx6; clear hr6 hT6 hR6 hbx6 hb6)
        have p0 := HR6.out.cell 0
        have p1 := HR6.out.cell 1
        have p2 := HR6.out.cell 2
        have p3 := HR6.out.cell 3
        have p4 := HR6.out.cell 4
        simp only [List.getElem?_toArray, List.getElem?_cons_zero, List.getElem?_cons_succ] at p0 p1 p2 p3 p4
        refine bodyPost_ret (v := .tuple #[.agg #[.string l.text, .bool l.made, .int .i64 l.up, .int .i64 l.down, .slice A6 n6 c6], .int .i64 0]) (by simp [results, Tryz.results27, go_sem, p0, p1, p2, p3, p4]) rfl ⟨⟨.slice A6 n6 c6, ?_, ?_⟩, ?_⟩
        · rw [HE.out.1, HE.out.2]
        · rw [HE.out.2]
          have hw5l := HR5.out.lt
          exact HBx.out.stay (Kept.of_turn HT6.out (fun i hi e => by have h9 : w5.heap.size ≤ i := hi.1; omega)) (fun i hi => ⟨by have h9 : w5.heap.size ≤ i := hi.1; omega, Nat.lt_of_lt_of_le hi.2 HT6.out.size⟩)
        · exact KTo.result hs0 HB0.out HU.out HK.out ((HKtr.out _ HP.out).then_ HB6.out) HT6.out
end
end Go.Proofs.YtpgkhhchpojlaaaGreatDoor
