/- Walk of the document's stack: Copy. -/
import Derived.Test.YtpgkhhchpojlaaaGreatDoorKz
import Derived.Test.YtpgkhhchpojlaaaGreatDoorKf
import Derived.Test.YtpgkhhchpojlaaaGreatDoorKi
namespace Go.Proofs.YtpgkhhchpojlaaaGreatDoor
open Go.RowKit Go.Maps Go.WideMaps

section
variable {U K : Nat → Prop} {w w' : World} {x : Nat} {fs : List Fr}
/-- A frame is appended to the stack. -/
theorem RK.app {zs : List Fv} {v v' : Value} {z : Fv} {w2 : World} (h : RK U K w x zs v) (hz : Holds2 K w z) (hok : z.1.Ok) (hn : zs.length < 50) (hg : w.grownBy w2 v.ownBlock) (ho : w2.ownsRow 0 64 5 v' (zs.length + 1) (rkCs zs ++ rkC z)) (hat : v'.ownBlock = v.ownBlock ∨ v'.ownBlock = some w.heap.size) :
    RK (fun i => U i ∨ v'.ownBlock = some i) K (w2.setCell ⟨x, 1, none⟩ v') x (zs ++ [z]) v' ∧ w2.cell? ⟨x, 1, none⟩ = some v ∧ w2.frozen? ⟨x, 1, none⟩ = false ∧ Turn U w w2 := by
  have hT := Turn.of_row hg
  have hT2 := turn_set w2 x 1 v'
  have hnx : v.ownBlock ≠ some x := fun e => by
    rcases h.own.2 with ⟨e2, _⟩ | ⟨g, cap, cur, e2, _, hh, _⟩
    · rw [e2] at e; cases e
    · rw [e2] at e
      injection e with e
      exact blk_ne (show Blk w g _ cur from hh) h.blk (by decide) e
  have hxl := h.ul x h.ux
  have hvk : ∀ i, v'.ownBlock = some i → ¬ K i ∧ i ≠ x := fun i hi => by
    rcases hat with e | e
    · rw [e] at hi
      exact ⟨h.uk i (h.uv i hi), fun e2 => hnx (e2 ▸ hi)⟩
    · rw [e] at hi
      injection hi with hi
      exact ⟨fun hk => by have := h.kl i hk; omega, by omega⟩
  have hkept : Kept K w (w2.setCell ⟨x, 1, none⟩ v') := fun i hi hil => (hT2.block i (by have := hT.size; omega) (fun e => h.uk x h.ux (e ▸ hi))).trans (hT.block i hil (fun e => h.uk i (h.uv i e) hi))
  refine ⟨?_, (hT.blk h.blk (fun e => hnx e)).cell 1, (hT.blk h.blk (fun e => hnx e)).frozen 1, hT.mono (fun i hi => h.uv i hi)⟩
  refine ⟨blk_set (hT.blk h.blk (fun e => hnx e)) v', by rw [List.length_append, rkCs_app, rkCs_one]; exact own_turn ho hT2 (fun g hg' e => (hvk g hg').2 e), fun y hy => ?_, ?_, .inl h.ux, fun g hg' => .inr hg', ?_, ?_, fun i hi => Nat.lt_of_lt_of_le (h.kl i hi) (Nat.le_trans hT.size hT2.size)⟩
  · rcases List.mem_append.1 hy with hy | hy
    · exact (h.hold y hy).stay hkept (fun _ h => h)
    · rw [List.mem_singleton.1 hy]; exact hz.stay hkept (fun _ h => h)
  · rw [List.map_append]
    refine ⟨by rw [List.length_append, List.length_map]; simp; omega, fun f hf => ?_⟩
    rcases List.mem_append.1 hf with hf | hf
    · exact h.ok.2 f hf
    · have : f = z.1 := by simpa using hf
      rw [this]; exact hok
  · rintro i (h5 | h5) h6
    · exact h.uk i h5 h6
    · exact (hvk i h5).1 h6
  · rintro i (h5 | h5)
    · exact Nat.lt_of_lt_of_le (h.ul i h5) (Nat.le_trans hT.size hT2.size)
    · exact Nat.lt_of_lt_of_le (ho.lt i h5).2 hT2.size
/-- A copy that is under way. -/
def CpRel (w : World) (y : Nat) (fs : List Fr) (wr : World) : Prop := Below w.heap.size w wr ∧ ∃ U' K', RKt U' K' wr y fs ∧ (∀ i, U' i → w.heap.size ≤ i) ∧ ∀ i, K' i → w.heap.size ≤ i
set_option maxRecDepth 100000 in
set_option maxHeartbeats 1600000 in
/-- Copy. -/
theorem nCopy (h : RKt U K w x fs) :
    Calls Tryz.prog 15 #[.pointer (some ⟨x, 0, none⟩)] w fun e w' => ∃ y, e = .returned (.pointer (some ⟨y, 0, none⟩)) ∧ CpRel w y fs w' := by
  obtain ⟨i0, hi0, hz0, hz1, hz3⟩ := info_parts frame_info
  have HN := Lib.hid (nNo h)
  have HK := Lib.hid h.sets.2.2.1
  obtain ⟨zs, v, h, rfl⟩ := h
  obtain ⟨A, cap, rfl, hcap, hA⟩ := own_form2 h.own
  have hlen := h.len
  have HX := Lib.hid (fun (w1 : World) (hb : Below w.heap.size w w1) => h.turn (S := fun i => w.heap.size ≤ i) ⟨hb.os, hb.tape, hb.output, hb.size, fun i hi _ => hb.block i hi⟩ (fun i hu he => by have := h.ul i hu; omega) (fun i hu he => by have := h.kl i hu; omega))
  have HA := Lib.hid hA
  clear h hA
  go_enter Tryz.func15, Tryz.ntmps15
  go_wp2_with (first
    | (go_at_call 43; refine HN.out.mono ?_; rintro e w1 ⟨rfl, rfl⟩)
    | (go_at_call 8; refine (nNew w).mono ?_; rintro e w1 ⟨y, rfl, hy, hb1⟩; have HY := Lib.hid hy; have HB1 := Lib.hid hb1; clear hy hb1))
  go_loopw [4] (fun v4 wr => ∃ k : Nat, k ≤ zs.length ∧ v4 = .int .i64 k ∧ CpRel w y ((zs.map (·.1)).take k) wr) (fun v4 _ => zs.length - (intOf v4).toNat)
  case atStart => exact ⟨0, Nat.zero_le _, rfl, HB1.out, _, _, HY.out, fun i hi => hi.1, fun i hi => hi.elim⟩
  case round =>
    obtain ⟨k, hk, rfl, hb, U1, K1, hy, hU1, hK1⟩ := hrel
    have hX := HX.out wr hb
    have c1 := hX.c1
    by_cases hlt : k < zs.length
    · obtain ⟨g, rfl⟩ := HA.out (by omega)
      have hz := List.getElem?_eq_getElem hlt
      generalize zs[k] = z at hz
      obtain ⟨e0, e1, e2, e3, e4⟩ := hX.cells hz
      obtain ⟨HZ1, HZ2⟩ := hX.hold z (List.mem_of_getElem? hz)
      have hzok := hX.okAt hz
      obtain ⟨Al, cl, f1, hl1, hl2, hl3⟩ := id HZ1
      obtain ⟨As, cs, f2, _⟩ := id HZ2
      rw [f1] at e2 HZ1
      rw [f2] at e3 HZ2
      obtain ⟨zy, vy, hy, hzy⟩ := hy
      have hzl : zy.length = k := by
        have := congrArg List.length hzy
        rw [List.length_map, List.length_take, List.length_map] at this
        omega
      obtain ⟨Ay, cy, rfl, hcy, _⟩ := own_form2 hy.own
      rw [hzl] at hcy
      have cy1 := hy.c1
      rw [hzl] at cy1
      have HOwn := Lib.hid (nOwnAll (w := (wr.alloc (.cells #[.int .i64 z.1.kind, .string z.1.name, .slice Al z.1.lines.length cl, .slice As z.1.args.length cs, .int .i64 (z.1.pos : Nat)] 64))) (.slice Al z.1.lines.length cl) z.1.lines (HZ1.stay (Kept.of_all ((Below.refl wr.heap.size wr).alloc (Nat.le_refl _) _)) (fun _ h => h)) (fun i hi => Nat.lt_of_lt_of_le (HK.out i hi) (hb.alloc hb.size _).size) (by have := hzok.lines; omega))
      have HStep : Hid (∀ (wc : World) (A2 : Option Addr) (n2 c2 : Nat), Below (wr.heap.size + 1) (wr.alloc (.cells #[.int .i64 z.1.kind, .string z.1.name, .slice Al z.1.lines.length cl, .slice As z.1.args.length cs, .int .i64 (z.1.pos : Nat)] 64)) wc → LnsAt (fun i => wr.heap.size + 1 ≤ i ∧ i < wc.heap.size) wc (.slice A2 n2 c2) z.1.lines →
          (wc.cell? ⟨wr.heap.size, 2, none⟩ = some (.slice Al z.1.lines.length cl) ∧ wc.frozen? ⟨wr.heap.size, 2, none⟩ = false) ∧ ((wc.setCell ⟨wr.heap.size, 2, none⟩ (.slice A2 n2 c2)).cell? ⟨wr.heap.size, 3, none⟩ = some (.slice As z.1.args.length cs) ∧ ((wc.setCell ⟨wr.heap.size, 2, none⟩ (.slice A2 n2 c2)).alloc (.cells #[] 9)).cell? ⟨wr.heap.size, 3, none⟩ = some (.slice As z.1.args.length cs)) ∧
          ∃ A3 c3 wf, (Builtin.append_ #[36, 36] 36 #[.slice (some ⟨wc.heap.size, 0, none⟩) 0 0, .slice As z.1.args.length cs]).run Tryz.prog ((wc.setCell ⟨wr.heap.size, 2, none⟩ (.slice A2 n2 c2)).alloc (.cells #[] 9)) = .ok (.slice A3 z.1.args.length c3) wf ∧
            (wf.cell? ⟨wr.heap.size, 3, none⟩ = some (.slice As z.1.args.length cs) ∧ wf.frozen? ⟨wr.heap.size, 3, none⟩ = false) ∧ Blk (wf.setCell ⟨wr.heap.size, 3, none⟩ (.slice A3 z.1.args.length c3)) wr.heap.size 64 #[.int .i64 z.1.kind, .string z.1.name, .slice A2 n2 c2, .slice A3 z.1.args.length c3, .int .i64 (z.1.pos : Nat)] ∧ (wf.setCell ⟨wr.heap.size, 3, none⟩ (.slice A3 z.1.args.length c3)).cell? ⟨y, 1, none⟩ = some (.slice Ay k cy) ∧ ((wf.setCell ⟨wr.heap.size, 3, none⟩ (.slice A3 z.1.args.length c3)).alloc (.cells #[.int .i64 z.1.kind, .string z.1.name, .slice A2 n2 c2, .slice A3 z.1.args.length c3, .int .i64 (z.1.pos : Nat)] 64)).cell? ⟨y, 1, none⟩ = some (.slice Ay k cy) ∧
            ∃ Av cv wh, (Builtin.append_ #[50, 50] 50 #[.slice Ay k cy, .slice (some ⟨wf.heap.size, 0, none⟩) 1 1]).run Tryz.prog ((wf.setCell ⟨wr.heap.size, 3, none⟩ (.slice A3 z.1.args.length c3)).drew.alloc (.cells #[.int .i64 z.1.kind, .string z.1.name, .slice A2 n2 c2, .slice A3 z.1.args.length c3, .int .i64 (z.1.pos : Nat)] 64)) = .ok (.slice Av (k + 1) cv) wh ∧
              wh.cell? ⟨y, 1, none⟩ = some (.slice Ay k cy) ∧ wh.frozen? ⟨y, 1, none⟩ = false ∧ CpRel w y ((zs.map (·.1)).take (k + 1)) (wh.setCell ⟨y, 1, none⟩ (.slice Av (k + 1) cv))) := Lib.hid (fun wc A2 n2 c2 hbc hlc => by
        have hbb : Below wr.heap.size wr (wr.alloc (.cells #[.int .i64 z.1.kind, .string z.1.name, .slice Al z.1.lines.length cl, .slice As z.1.args.length cs, .int .i64 (z.1.pos : Nat)] 64)) := (Below.refl _ _).alloc (Nat.le_refl _) _
        have hsb : (wr.alloc (.cells #[.int .i64 z.1.kind, .string z.1.name, .slice Al z.1.lines.length cl, .slice As z.1.args.length cs, .int .i64 (z.1.pos : Nat)] 64)).heap.size = wr.heap.size + 1 := by simp
        have hfb : Blk (wr.alloc (.cells #[.int .i64 z.1.kind, .string z.1.name, .slice Al z.1.lines.length cl, .slice As z.1.args.length cs, .int .i64 (z.1.pos : Nat)] 64)) wr.heap.size 64 #[.int .i64 z.1.kind, .string z.1.name, .slice Al z.1.lines.length cl, .slice As z.1.args.length cs, .int .i64 (z.1.pos : Nat)] := Blk.new _ _ _
        have hfc : Blk wc wr.heap.size 64 #[.int .i64 z.1.kind, .string z.1.name, .slice Al z.1.lines.length cl, .slice As z.1.args.length cs, .int .i64 (z.1.pos : Nat)] := hfb.below hbc (by omega)
        have hsc : wr.heap.size + 1 ≤ wc.heap.size := by have := hbc.size; omega
        have hfd : Blk (wc.setCell ⟨wr.heap.size, 2, none⟩ (.slice A2 n2 c2)) wr.heap.size 64 #[.int .i64 z.1.kind, .string z.1.name, .slice A2 n2 c2, .slice As z.1.args.length cs, .int .i64 (z.1.pos : Nat)] := by
          have := blk_set hfc (o := 2) (.slice A2 n2 c2)
          simpa only [List.setIfInBounds_toArray, List.set_cons_succ, List.set_cons_zero] using this
        have hsd : (wc.setCell ⟨wr.heap.size, 2, none⟩ (.slice A2 n2 c2)).heap.size = wc.heap.size := by simp [World.setCell]
        have hbwc : Below wr.heap.size wr wc := hbb.trans (hbc.mono (by omega))
        have hbd : Below wr.heap.size wr (wc.setCell ⟨wr.heap.size, 2, none⟩ (.slice A2 n2 c2)) := (turn_set wc wr.heap.size 2 _).below hbwc hbwc.size (fun i e => by omega)
        have hKlt : ∀ i, K i → i < wr.heap.size := fun i hi => Nat.lt_of_lt_of_le (HK.out i hi) hb.size
        obtain ⟨A3, c3, wf, q1, hss, hbf, -⟩ := runSs (wc.setCell ⟨wr.heap.size, 2, none⟩ (.slice A2 n2 c2)) 36 As z.1.args.length cs z.1.args (HZ2.stay (Kept.of_below hbd hKlt) (fun _ h => h)) hzok.args
        rw [hsd] at q1 hss
        have hff : Blk wf wr.heap.size 64 #[.int .i64 z.1.kind, .string z.1.name, .slice A2 n2 c2, .slice As z.1.args.length cs, .int .i64 (z.1.pos : Nat)] := hfd.below hbf (by omega)
        have hfg : Blk (wf.setCell ⟨wr.heap.size, 3, none⟩ (.slice A3 z.1.args.length c3)) wr.heap.size 64 #[.int .i64 z.1.kind, .string z.1.name, .slice A2 n2 c2, .slice A3 z.1.args.length c3, .int .i64 (z.1.pos : Nat)] := by
          have := blk_set hff (o := 3) (.slice A3 z.1.args.length c3)
          simpa only [List.setIfInBounds_toArray, List.set_cons_succ, List.set_cons_zero] using this
        have hsg : (wf.setCell ⟨wr.heap.size, 3, none⟩ (.slice A3 z.1.args.length c3)).heap.size = wf.heap.size := by simp [World.setCell]
        have hsf : wc.heap.size ≤ wf.heap.size := by have := hbf.size; omega
        have hbwf : Below wr.heap.size wr wf := hbd.trans (hbf.mono (by omega))
        have hbg : Below wr.heap.size wr (wf.setCell ⟨wr.heap.size, 3, none⟩ (.slice A3 z.1.args.length c3)) := (turn_set wf wr.heap.size 3 _).below hbwf hbwf.size (fun i e => by omega)
        have hfb3 := hfd.cell 3
        have hfb4 := (hfd.alloc (.cells #[] 9)).cell 3
        have hff3 := hff.cell 3
        have hfc2 := hfc.cell 2
        refine ⟨⟨hfc2, hfc.frozen 2⟩, ⟨hfb3, hfb4⟩, A3, c3, wf, q1, ⟨hff3, hff.frozen 3⟩, hfg, ?_⟩
        -- the copy's stack at the world behind
        have hyg := hy.turn (S := fun i => wr.heap.size ≤ i) ⟨hbg.os, hbg.tape, hbg.output, hbg.size, fun i hi _ => hbg.block i hi⟩ (fun i hu he => by have := hy.ul i hu; omega) (fun i hu he => by have := hy.kl i hu; omega)
        have hcg := hyg.c1
        have hcg2 := (hyg.below ((Below.refl _ _).alloc (Nat.le_refl _) (.cells #[.int .i64 z.1.kind, .string z.1.name, .slice A2 n2 c2, .slice A3 z.1.args.length c3, .int .i64 (z.1.pos : Nat)] 64))).c1
        rw [hzl] at hcg hcg2
        refine ⟨hcg, hcg2, ?_⟩
        -- with what is new besides
        have hW : RK U1 (fun i => K1 i ∨ wr.heap.size + 1 ≤ i ∧ i < wf.heap.size) ((wf.setCell ⟨wr.heap.size, 3, none⟩ (.slice A3 z.1.args.length c3)).drew.alloc (.cells #[.int .i64 z.1.kind, .string z.1.name, .slice A2 n2 c2, .slice A3 z.1.args.length c3, .int .i64 (z.1.pos : Nat)] 64)) y zy (.slice Ay zy.length cy) := by
          have hh := hyg.below (below_da (wf.setCell ⟨wr.heap.size, 3, none⟩ (.slice A3 z.1.args.length c3)) (.cells #[.int .i64 z.1.kind, .string z.1.name, .slice A2 n2 c2, .slice A3 z.1.args.length c3, .int .i64 (z.1.pos : Nat)] 64))
          refine ⟨hh.blk, hh.own, fun z hz => (hh.hold z hz).stay (fun _ _ _ => rfl) (fun i hi => .inl hi), hh.ok, hh.ux, hh.uv, fun i hu hk => ?_, hh.ul, fun i hi => ?_⟩
          · rcases hk with hk | hk
            · exact hh.uk i hu hk
            · have := hy.ul i hu; omega
          · rcases hi with hi | hi
            · exact hh.kl i hi
            · have e9 : ((wf.setCell ⟨wr.heap.size, 3, none⟩ (.slice A3 z.1.args.length c3)).drew.alloc (.cells #[.int .i64 z.1.kind, .string z.1.name, .slice A2 n2 c2, .slice A3 z.1.args.length c3, .int .i64 (z.1.pos : Nat)] 64)).heap.size = wf.heap.size + 1 := by simp [World.setCell, World.drew]
              omega
        have hz2 : Holds2 (fun i => K1 i ∨ wr.heap.size + 1 ≤ i ∧ i < wf.heap.size) ((wf.setCell ⟨wr.heap.size, 3, none⟩ (.slice A3 z.1.args.length c3)).drew.alloc (.cells #[.int .i64 z.1.kind, .string z.1.name, .slice A2 n2 c2, .slice A3 z.1.args.length c3, .int .i64 (z.1.pos : Nat)] 64)) (z.1, .slice A2 n2 c2, .slice A3 z.1.args.length c3) := by
          have t3 : Turn (· = wr.heap.size) wf ((wf.setCell ⟨wr.heap.size, 3, none⟩ (.slice A3 z.1.args.length c3)).drew.alloc (.cells #[.int .i64 z.1.kind, .string z.1.name, .slice A2 n2 c2, .slice A3 z.1.args.length c3, .int .i64 (z.1.pos : Nat)] 64)) := (turn_set wf wr.heap.size 3 _).trans (S2 := fun _ => False) (Turn.of_below (below_da (wf.setCell ⟨wr.heap.size, 3, none⟩ (.slice A3 z.1.args.length c3)) (.cells #[.int .i64 z.1.kind, .string z.1.name, .slice A2 n2 c2, .slice A3 z.1.args.length c3, .int .i64 (z.1.pos : Nat)] 64))) (fun _ _ h => h.elim)
          have t2 : Turn (· = wr.heap.size) wc ((wf.setCell ⟨wr.heap.size, 3, none⟩ (.slice A3 z.1.args.length c3)).drew.alloc (.cells #[.int .i64 z.1.kind, .string z.1.name, .slice A2 n2 c2, .slice A3 z.1.args.length c3, .int .i64 (z.1.pos : Nat)] 64)) := ((turn_set wc wr.heap.size 2 _).trans (S2 := fun _ => False) (Turn.of_below hbf) (fun _ _ h => h.elim)).trans t3 (fun _ _ h => h)
          exact ⟨hlc.stay (Kept.of_turn t2 (fun i hi e => by have := hi.1; omega)) (fun i hi => .inr ⟨hi.1, by have := hi.2; omega⟩), hss.stay (Kept.of_turn t3 (fun i hi e => by have := hi.1; omega)) (fun i hi => .inr ⟨by have := hi.1; omega, hi.2⟩)⟩
        have hnew : Blk ((wf.setCell ⟨wr.heap.size, 3, none⟩ (.slice A3 z.1.args.length c3)).drew.alloc (.cells #[.int .i64 z.1.kind, .string z.1.name, .slice A2 n2 c2, .slice A3 z.1.args.length c3, .int .i64 (z.1.pos : Nat)] 64)) wf.heap.size 64 #[.int .i64 z.1.kind, .string z.1.name, .slice A2 n2 c2, .slice A3 z.1.args.length c3, .int .i64 (z.1.pos : Nat)] := by
          have := Blk.new ((wf.setCell ⟨wr.heap.size, 3, none⟩ (.slice A3 z.1.args.length c3)).drew) 64 #[.int .i64 z.1.kind, .string z.1.name, .slice A2 n2 c2, .slice A3 z.1.args.length c3, .int .i64 (z.1.pos : Nat)]
          rw [show ((wf.setCell ⟨wr.heap.size, 3, none⟩ (.slice A3 z.1.args.length c3)).drew).heap.size = wf.heap.size from hsg] at this
          exact this
        obtain ⟨v', wh, r1, r2, r3, _, r5⟩ := run_append_own_at (P := Tryz.prog) ((wf.setCell ⟨wr.heap.size, 3, none⟩ (.slice A3 z.1.args.length c3)).drew.alloc (.cells #[.int .i64 z.1.kind, .string z.1.name, .slice A2 n2 c2, .slice A3 z.1.args.length c3, .int .i64 (z.1.pos : Nat)] 64)) 0 50 50 64 i0 _ 5 80 Tryz.underlying50 hi0 hz0 hz1 hz3 rfl (by omega) (.slice Ay zy.length cy) zy.length (rkCs zy) hW.own ⟨wf.heap.size, 0, none⟩ 1 1 (rkC (z.1, .slice A2 n2 c2, .slice A3 z.1.args.length c3)) rfl (cells_new hnew) hz2.one (by unfold maxLen; omega) (by omega) (Nat.zero_le _)
        obtain ⟨Av, cv, rfl, _, _⟩ := own_form2 r2
        obtain ⟨s1, s2, s3, s4⟩ := hW.app hz2 hzok (by omega) r3 r2 r5
        rw [hzl] at r1 s1 s2 r5
        refine ⟨Av, cv, wh, r1, s2, s3, ?_, _, _, ⟨_, _, s1, ?_⟩, ?_, ?_⟩
        · have hyl : w.heap.size ≤ y := hU1 y hy.ux
          have hbW : Below w.heap.size w ((wf.setCell ⟨wr.heap.size, 3, none⟩ (.slice A3 z.1.args.length c3)).drew.alloc (.cells #[.int .i64 z.1.kind, .string z.1.name, .slice A2 n2 c2, .slice A3 z.1.args.length c3, .int .i64 (z.1.pos : Nat)] 64)) := (hb.trans (hbg.mono hb.size)).trans ((below_da (wf.setCell ⟨wr.heap.size, 3, none⟩ (.slice A3 z.1.args.length c3)) (.cells #[.int .i64 z.1.kind, .string z.1.name, .slice A2 n2 c2, .slice A3 z.1.args.length c3, .int .i64 (z.1.pos : Nat)] 64)).mono (Nat.le_trans hb.size hbg.size))
          have hbH : Below w.heap.size w wh := s4.below hbW hbW.size (fun i hi => hU1 i hi)
          exact (turn_set wh y 1 _).below hbH hbH.size (fun i e => by omega)
        · rw [List.map_append, hzy, List.take_succ_eq_append_getElem (by rw [List.length_map]; exact hlt)]
          have := get_fr hz
          obtain ⟨h1, h2⟩ := List.getElem?_eq_some_iff.1 this
          rw [h2]; rfl
        · rintro i (hi | hi)
          · exact hU1 i hi
          · rcases r5 with e | e
            · rw [e] at hi
              exact hU1 i (hy.uv i (by rw [hzl]; exact hi))
            · rw [e] at hi
              injection hi with hi
              rw [← hi]
              have e9 : ((wf.setCell ⟨wr.heap.size, 3, none⟩ (.slice A3 z.1.args.length c3)).drew.alloc (.cells #[.int .i64 z.1.kind, .string z.1.name, .slice A2 n2 c2, .slice A3 z.1.args.length c3, .int .i64 (z.1.pos : Nat)] 64)).heap.size = wf.heap.size + 1 := by simp [World.setCell, World.drew]
              have := hb.size
              omega
        · rintro i (hi | hi)
          · exact hK1 i hi
          · have := hb.size
            omega)
      clear hX hy HZ1 HZ2 hl3 hzy hzl hz
      go_wp2_with (first
        | (go_at_call 44; refine HOwn.out.mono ?_; rintro e wc ⟨v2, rfl, hv2, hbc⟩; obtain ⟨A2, n2, c2, rfl⟩ : ∃ A n c, v2 = .slice A n c := (by obtain ⟨A, c, e, _⟩ := hv2; exact ⟨A, _, c, e⟩); have hsb : (wr.alloc (.cells #[.int .i64 z.1.kind, .string z.1.name, .slice Al z.1.lines.length cl, .slice As z.1.args.length cs, .int .i64 (z.1.pos : Nat)] 64)).heap.size = wr.heap.size + 1 := (by simp); rw [hsb] at hv2 hbc; obtain ⟨⟨g1, g2⟩, ⟨g3, g4⟩, A3, c3, wf, q1, ⟨g5, g6⟩, hfg, g7, g8, Av, cv, wh, q2, g9, g10, hcp⟩ := HStep.out wc A2 n2 c2 hbc hv2; have HCp := Lib.hid hcp; have HFg := Lib.hid hfg; have k0 := hfg.cell 0; have k1 := hfg.cell 1; have k2 := hfg.cell 2; have k3 := hfg.cell 3; have k4 := hfg.cell 4; simp only [List.getElem?_toArray, List.getElem?_cons_zero, List.getElem?_cons_succ] at k0 k1 k2 k3 k4; clear hcp hv2 hbc hsb hfg)
        | (at_builtin; refine wpList_append_run _ rfl (.tmp 29) (.tmp 31) _ rfl _ _ rfl rfl _ _ q1 ?_; clear q1))
      go_region_law
        (refine step_run3 rfl (.tmp 38) (.tmp 40) 50 ⟨?_, ?_⟩; rfl; refine Exists.intro _ (Exists.intro _ (And.intro q2 ?_)))
      all_goals
        go_wp2_with fail
        go_roundw
        case rel => exact ⟨k + 1, by omega, by go_num, HCp.out⟩
        case measure => simp [intOf]; omega
    · have ek : k = zs.length := by omega
      subst ek
      rw [List.take_of_length_le (by rw [List.length_map]; exact Nat.le_refl _)] at hy
      have HY2 := Lib.hid hy
      clear hy
      go_wp2_with fail
      go_ret
      exact ⟨y, rfl, hb, U1, K1, HY2.out, hU1, hK1⟩
end
end Go.Proofs.YtpgkhhchpojlaaaGreatDoor
