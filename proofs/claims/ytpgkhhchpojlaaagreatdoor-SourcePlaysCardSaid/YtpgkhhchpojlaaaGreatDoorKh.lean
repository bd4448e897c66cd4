/- Walk of the document's stack: Peek. -/
import Derived.Test.YtpgkhhchpojlaaaGreatDoorKz
import Derived.Test.YtpgkhhchpojlaaaGreatDoorKb
import Derived.Test.YtpgkhhchpojlaaaGreatDoorEf
import Derived.Deep.RegionHeld3
namespace Go.Proofs.YtpgkhhchpojlaaaGreatDoor
open Go.RowKit Go.Maps Go.WideMaps

section
variable {U K : Nat → Prop} {w w' : World} {x : Nat} {fs : List Fr}
set_option maxRecDepth 100000 in
set_option maxHeartbeats 1600000 in
/-- Peek. -/
theorem nPeek (h : RKt U K w x fs) :
    Calls Tryz.prog 28 #[.pointer (some ⟨x, 0, none⟩)] w fun e w' => LnOut w w' e (nxL fs) (nxE fs) ∧ Below w.heap.size w w' := by
  obtain ⟨w0, hw0⟩ : ∃ w0, w0 = w.alloc (.cells #[.string ⟨#[]⟩, .bool false, .int .i64 0, .int .i64 0, .slice none 0 0] 31) := ⟨_, rfl⟩
  have hB0 : Below w.heap.size w w0 := by rw [hw0]; exact (Below.refl _ _).alloc (Nat.le_refl _) _
  have hs0 : w0.heap.size = w.heap.size + 1 := by rw [hw0]; simp
  have hrb : Blk w0 w.heap.size 31 #[.string ⟨#[]⟩, .bool false, .int .i64 0, .int .i64 0, .slice none 0 0] := by rw [hw0]; exact Blk.new _ _ _
  have HN := Lib.hid (nNo (h.below hB0))
  have HK := Lib.hid h.sets.2.2.1
  obtain ⟨zs, v, h, rfl⟩ := h
  obtain ⟨A, cap, rfl, hcap, hA⟩ := own_form2 h.own
  have hlen := h.len
  have HX := Lib.hid (fun (w1 : World) (hb : Below w.heap.size w w1) => h.below hb)
  have HRb := Lib.hid (fun (w1 : World) (hb : Below w0.heap.size w0 w1) => (show Blk w1 w.heap.size 31 #[.string ⟨#[]⟩, .bool false, .int .i64 0, .int .i64 0, .slice none 0 0] from hrb.below hb hrb.lt))
  have HBw := Lib.hid (fun (w1 : World) (hb : Below w0.heap.size w0 w1) => hB0.trans (hb.mono hB0.size))
  have HA := Lib.hid hA
  have c1 := (HX.out _ hB0).c1
  clear h hA hrb hB0
  go_enter Tryz.func28, Tryz.ntmps28
  subst hw0
  go_wp2_with (go_at_call 43; refine HN.out.mono ?_; rintro e w1 ⟨rfl, rfl⟩)
  generalize w.alloc (.cells #[.string ⟨#[]⟩, .bool false, .int .i64 0, .int .i64 0, .slice none 0 0] 31) = w0 at *
  go_loopw [4] (fun v4 wr => ∃ m : Nat, m ≤ zs.length ∧ v4 = .int .i64 ((m : Int) - 1) ∧ Below w0.heap.size w0 wr ∧ ∀ (j : Nat) f, m ≤ j → (zs.map (·.1))[j]? = some f → f.live = false) (fun v4 _ => (intOf v4 + 1).toNat)
  case atStart => exact ⟨zs.length, Nat.le_refl _, rfl, Below.refl _ _, fun j f hj hf => by
    have := (List.getElem?_eq_some_iff.1 hf).1
    rw [List.length_map] at this
    omega⟩
  case round =>
    obtain ⟨m, hm, hv, hb, hall⟩ := hrel
    have HAll := Lib.hid hall
    clear hall
    have hr0 := HRb.out wr hb
    have hbw := HBw.out wr hb
    rcases m with _ | q
    · have hn : liveN (zs.map (·.1)) = 0 := topN_of (Nat.zero_le _) HAll.out (fun h => absurd h (Nat.lt_irrefl 0))
      have HE := Lib.hid (live_no hn)
      have hv : _ = Value.int .i64 (-1) := hv
      subst hv
      have hf0 := hr0.frozen 0
      have hf1 := hr0.frozen 1
      have hf2 := hr0.frozen 2
      have hf3 := hr0.frozen 3
      have hf4 := hr0.frozen 4
      have d0 := hr0.cell 0
      have d1 := hr0.cell 1
      have d2 := hr0.cell 2
      have d3 := hr0.cell 3
      have d4 := hr0.cell 4
      simp only [List.getElem?_toArray, List.getElem?_cons_zero, List.getElem?_cons_succ] at d0 d1 d2 d3 d4
      obtain ⟨hT, hR⟩ := res_set hr0 (.string ⟨#[]⟩) (.bool false) (.int .i64 0) (.int .i64 0) (.slice none 0 0)
      have HR := Lib.hid hR
      have HT := Lib.hid hT
      clear hT hR hr0
      go_wp2_with fail
      have p0 := HR.out.cell 0
      have p1 := HR.out.cell 1
      have p2 := HR.out.cell 2
      have p3 := HR.out.cell 3
      have p4 := HR.out.cell 4
      simp only [List.getElem?_toArray, List.getElem?_cons_zero, List.getElem?_cons_succ] at p0 p1 p2 p3 p4
      refine bodyPost_ret (v := .tuple #[.agg #[.string ⟨#[]⟩, .bool false, .int .i64 0, .int .i64 0, .slice none 0 0], .int .i64 3]) (by simp [results, Tryz.results28, go_sem, p0, p1, p2, p3, p4]) rfl ⟨⟨.slice none 0 0, ?_, ?_⟩, HT.out.below hbw hbw.size (fun i e => by omega)⟩
      · rw [HE.out.1, HE.out.2]; rfl
      · rw [HE.out.2]; exact RowAt.nil
    · have hv : _ = Value.int .i64 (q : Int) := hv.trans (by rw [show ((q + 1 : Nat) : Int) - 1 = q by omega])
      subst hv
      obtain ⟨g, rfl⟩ := HA.out (by omega)
      have hz := List.getElem?_eq_getElem (show q < zs.length by omega)
      generalize zs[q] = z at hz
      have hX := HX.out wr hbw
      have c1 := hX.c1
      obtain ⟨e0, e1, e2, e3, e4⟩ := hX.cells hz
      obtain ⟨HZ1, HZ2⟩ := hX.hold z (List.mem_of_getElem? hz)
      obtain ⟨Al, cl, f1, hl1, hl2, hl3⟩ := HZ1
      obtain ⟨As, cs, f2, _⟩ := HZ2
      have HOver := Lib.hid (nOver z.1.kind z.1.name Al z.1.lines.length cl As z.1.args.length cs z.1.pos wr)
      have HC := Lib.hid (fun (w1 : World) (hb : Below w.heap.size w w1) => (HX.out w1 hb).cells hz)
      have HFr := Lib.hid (get_fr hz)
      rw [f1] at e2
      rw [f2] at e3
      unfold maxLen at hl2
      by_cases ho : z.1.lines.length ≤ z.1.pos
      · rw [decide_eq_true ho] at HOver
        have HO := Lib.hid (show z.1.live = false by unfold Fr.live Fr.over; rw [decide_eq_true ho]; rfl)
        clear ho hX hz hr0
        go_wp2_with (go_at_call 62; refine HOver.out.mono ?_; rintro e w4 ⟨rfl, hb4⟩)
        go_roundw
        case rel => exact ⟨q, by omega, by go_num, hb.trans (hb4.mono hb.size), fun j f hj hf => by
          by_cases e : j = q
          · subst e
            rw [HFr.out] at hf
            injection hf with hf
            subst hf
            exact HO.out
          · exact HAll.out j f (by omega) hf⟩
        case measure => simp [intOf]
      · rw [decide_eq_false ho] at HOver
        have hn : liveN (zs.map (·.1)) = q + 1 := topN_of (by rw [List.length_map]; exact hm) HAll.out (fun _ => ⟨z.1, HFr.out, by unfold Fr.live Fr.over; rw [decide_eq_false ho]; rfl⟩)
        obtain ⟨gl, off, rfl, hKg, hrl⟩ := hl3 (by omega)
        have hlx := List.getElem?_eq_getElem (show z.1.pos < z.1.lines.length by omega)
        have HE := Lib.hid (live_at hn HFr.out hlx)
        have hlr := hrl z.1.pos _ hlx
        generalize z.1.lines[z.1.pos] = l at hlx hlr HE
        have HL := Lib.hid (fun (w1 : World) (hb1 : Below w.heap.size w w1) => (hlr.stay (K' := K) hKg (fun i hk _ => (hb1.block i (HK.out i hk)).trans (hbw.block i (HK.out i hk)).symm) (fun _ h => h)))
        obtain ⟨vb, hvb, hbx⟩ := hlr.c4
        have HOwn := Lib.hid (fun (w1 : World) (hb1 : Below wr.heap.size wr w1) => nOwn l.text l.made l.up l.down vb l.boxes (hbx.stay (Kept.of_all hb1) (fun _ h => h)) (fun i hi => Nat.lt_of_lt_of_le (HK.out i hi) (hbw.trans (hb1.mono hbw.size)).size) hlr.s4)
        obtain ⟨Ab, cb, rfl, hb1', hb2', _⟩ := hbx
        have HL4 : Hid (∀ (w1 : World), Below w.heap.size w w1 → w1.cell? ⟨gl, off + z.1.pos * 5 + 4, none⟩ = some (.slice Ab l.boxes.length cb)) := Lib.hid (fun w1 hb1 => (cell_same (p := ⟨gl, off + z.1.pos * 5 + 4, none⟩) ((hb1.block gl (HK.out gl hKg)).trans (hbw.block gl (HK.out gl hKg)).symm)).trans hvb)
        have hpI : ¬ ((z.1.lines.length : Int) ≤ (z.1.pos : Int)) := by omega
        have hpI2 : (z.1.pos : Int) < (z.1.lines.length : Int) := by omega
        have hqI : (q : Int) < (zs.length : Int) := by omega
        have hpI3 : ¬ (z.1.pos : Int) < 0 := by omega
        have hqI3 : ¬ (q : Int) < 0 := by omega
        clear hlr hvb hlx ho hX hz hn hrl
        have HCell : Hid (∀ (w1 : World), Below w.heap.size w w1 → w1.cell? ⟨x, 1, none⟩ = some (.slice (some ⟨g, 0, none⟩) zs.length cap) ∧ w1.cell? ⟨g, q * 5 + 2, none⟩ = some (.slice (some ⟨gl, off, none⟩) z.1.lines.length cl) ∧ w1.cell? ⟨g, q * 5 + 4, none⟩ = some (.int .i64 (z.1.pos : Nat)) ∧
            w1.cell? ⟨gl, off + z.1.pos * 5, none⟩ = some (.string l.text) ∧ w1.cell? ⟨gl, off + z.1.pos * 5 + 1, none⟩ = some (.bool l.made) ∧ w1.cell? ⟨gl, off + z.1.pos * 5 + 2, none⟩ = some (.int .i64 l.up) ∧ w1.cell? ⟨gl, off + z.1.pos * 5 + 3, none⟩ = some (.int .i64 l.down) ∧ w1.cell? ⟨gl, off + z.1.pos * 5 + 4, none⟩ = some (.slice Ab l.boxes.length cb)) := Lib.hid (fun w1 hb1 => by
          have q1 := HC.out w1 hb1
          have q2 := HL.out w1 hb1
          refine ⟨(HX.out w1 hb1).c1, ?_, q1.2.2.2.2, q2.c0, q2.c1, q2.c2, q2.c3, HL4.out w1 hb1⟩
          rw [← f1]; exact q1.2.2.1)
        go_wp2_with (go_at_call 62; refine HOver.out.mono ?_; rintro e w4 ⟨rfl, hb4⟩)
        have HB4 := Lib.hid hb4
        have HW4 := Lib.hid (hbw.trans (hb4.mono hbw.size))
        have HR4 := Lib.hid (HRb.out w4 (hb.trans (hb4.mono hb.size)))
        clear hb4 hr0 e0 e1 e2 e3 e4 c1
        go_region_held3 (fun w1 => w1.cell? ⟨x, 1, none⟩ = some (.slice (some ⟨g, 0, none⟩) zs.length cap) ∧ w1.cell? ⟨g, q * 5 + 2, none⟩ = some (.slice (some ⟨gl, off, none⟩) z.1.lines.length cl) ∧ w1.cell? ⟨g, q * 5 + 4, none⟩ = some (.int .i64 (z.1.pos : Nat)) ∧
            w1.cell? ⟨gl, off + z.1.pos * 5, none⟩ = some (.string l.text) ∧ w1.cell? ⟨gl, off + z.1.pos * 5 + 1, none⟩ = some (.bool l.made) ∧ w1.cell? ⟨gl, off + z.1.pos * 5 + 2, none⟩ = some (.int .i64 l.up) ∧ w1.cell? ⟨gl, off + z.1.pos * 5 + 3, none⟩ = some (.int .i64 l.down) ∧ w1.cell? ⟨gl, off + z.1.pos * 5 + 4, none⟩ = some (.slice Ab l.boxes.length cb))
          (first | exact HCell.out _ HW4.out | exact HCell.out _ HW4.out.drew | exact HCell.out _ HB6.out | exact HCell.out _ HB5.out)
          (first
            | (go_at_call 63; refine (HOwn.out _ HB4.out.drew).mono ?_; rintro e w5 ⟨v5, rfl, hbx5, hb5⟩; obtain ⟨A5, n5, c5, rfl⟩ : ∃ A n c, v5 = .slice A n c := (by obtain ⟨A, c, e, _⟩ := hbx5; exact ⟨A, _, c, e⟩); have hr5 : Blk w5 w.heap.size 31 #[.string ⟨#[]⟩, .bool false, .int .i64 0, .int .i64 0, .slice none 0 0] := (hb5.block w.heap.size HR4.out.lt).trans HR4.out; have hf0 := hr5.frozen 0; have hf1 := hr5.frozen 1; have hf2 := hr5.frozen 2; have hf3 := hr5.frozen 3; have hf4 := hr5.frozen 4; have d0 := hr5.cell 0; have d1 := hr5.cell 1; have d2 := hr5.cell 2; have d3 := hr5.cell 3; have d4 := hr5.cell 4; simp only [List.getElem?_toArray, List.getElem?_cons_zero, List.getElem?_cons_succ] at d0 d1 d2 d3 d4; have HB5 := Lib.hid (HW4.out.drew.trans (hb5.mono HW4.out.drew.size)); obtain ⟨hT6, hR6⟩ := res_set hr5 (.string l.text) (.bool l.made) (.int .i64 l.up) (.int .i64 l.down) (.slice A5 n5 c5); have HB6 := Lib.hid (hT6.below HB5.out HB5.out.size (fun i e => by omega)); have HT6 := Lib.hid hT6; have HR6 := Lib.hid hR6; clear hr5 hT6 hR6; have HBx := Lib.hid hbx5; clear hbx5 hb5))
        go_wp2_with fail
        have p0 := HR6.out.cell 0
        have p1 := HR6.out.cell 1
        have p2 := HR6.out.cell 2
        have p3 := HR6.out.cell 3
        have p4 := HR6.out.cell 4
        simp only [List.getElem?_toArray, List.getElem?_cons_zero, List.getElem?_cons_succ] at p0 p1 p2 p3 p4
        refine bodyPost_ret (v := .tuple #[.agg #[.string l.text, .bool l.made, .int .i64 l.up, .int .i64 l.down, .slice A5 n5 c5], .int .i64 0]) (by simp [results, Tryz.results28, go_sem, p0, p1, p2, p3, p4]) rfl ⟨⟨.slice A5 n5 c5, ?_, ?_⟩, HB6.out⟩
        · rw [HE.out.1, HE.out.2]
        · rw [HE.out.2]
          exact HBx.out.stay (Kept.of_turn HT6.out (fun i hi e => by have h9 : w4.heap.size ≤ i := hi.1; have := HR4.out.lt; omega)) (fun i hi => ⟨Nat.le_trans HW4.out.size hi.1, Nat.lt_of_lt_of_le hi.2 HT6.out.size⟩)
end
end Go.Proofs.YtpgkhhchpojlaaaGreatDoor
