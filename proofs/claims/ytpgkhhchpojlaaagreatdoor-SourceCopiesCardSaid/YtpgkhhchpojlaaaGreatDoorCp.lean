/- Walk of the code's stack: Peek. -/
import Derived.Test.YtpgkhhchpojlaaaGreatDoorCm
namespace Go.Proofs.YtpgkhhchpojlaaaGreatDoor
open Go.RowKit Go.Maps Go.WideMaps

section
variable {U K : Nat → Prop} {w w' : World} {x r cap : Nat} {zs : List Fv} {fs : List Fr}
set_option maxRecDepth 100000 in
set_option maxHeartbeats 2000000 in
/-- Peek. -/
theorem cPeek (h : CKt U K w x fs) : Calls Tryz.prog 20 #[.pointer (some ⟨x, 0, none⟩)] w fun e w' => LnOut w w' e (nxL fs) (nxE fs) ∧ Below w.heap.size w w' := by
  obtain ⟨w0, hw0⟩ : ∃ w0, w0 = w.alloc (.cells #[.string ⟨#[]⟩, .bool false, .int .i64 0, .int .i64 0, .slice none 0 0] 31) := ⟨_, rfl⟩
  have hB0 : Below w.heap.size w w0 := by rw [hw0]; exact (Below.refl _ _).alloc (Nat.le_refl _) _
  have hrb : Blk w0 w.heap.size 31 #[.string ⟨#[]⟩, .bool false, .int .i64 0, .int .i64 0, .slice none 0 0] := by rw [hw0]; exact Blk.new _ _ _
  have HZ := Lib.hid (h.unmade hB0)
  obtain ⟨zs, r, cap, h, rfl⟩ := h
  have HK := Lib.hid h.kl
  have HRb := Lib.hid (fun (w1 : World) (hb : Below w0.heap.size w0 w1) => (show Blk w1 w.heap.size 31 #[.string ⟨#[]⟩, .bool false, .int .i64 0, .int .i64 0, .slice none 0 0] from hrb.below hb hrb.lt))
  have HBw := Lib.hid (fun (w1 : World) (hb : Below w0.heap.size w0 w1) => hB0.trans (hb.mono hB0.size))
  cases hq : topN Fr.live (zs.map (·.1)) with
  | zero =>
    have HE := Lib.hid (live_no (fs := zs.map (fun z : Fv => z.1)) hq)
    have HT := Lib.hid (cTop0 (h.below hB0) eUnread aUnread hq)
    clear h hq hrb hB0
    subst hw0
    go_enter Tryz.func20, Tryz.ntmps20
    go_wp2_with (first
      | (go_at_call 41; refine HZ.out.mono ?_; rintro e w1 ⟨rfl, hw⟩; rw [hw]; clear hw)
      | (go_at_call 49; refine HT.out.mono ?_; rintro e w1 ⟨rfl, hb1⟩; have hr0 := HRb.out _ hb1; have HBW := Lib.hid (HBw.out _ hb1); have hf0 := hr0.frozen 0; have hf1 := hr0.frozen 1; have hf2 := hr0.frozen 2; have hf3 := hr0.frozen 3; have hf4 := hr0.frozen 4; have d0 := hr0.cell 0; have d1 := hr0.cell 1; have d2 := hr0.cell 2; have d3 := hr0.cell 3; have d4 := hr0.cell 4; simp only [List.getElem?_toArray, List.getElem?_cons_zero, List.getElem?_cons_succ] at d0 d1 d2 d3 d4; obtain ⟨hT, hR⟩ := res_set hr0 (.string ⟨#[]⟩) (.bool false) (.int .i64 0) (.int .i64 0) (.slice none 0 0); have HR := Lib.hid hR; have HTu := Lib.hid hT; clear hT hR hr0 hb1))
    have p0 := HR.out.cell 0
    have p1 := HR.out.cell 1
    have p2 := HR.out.cell 2
    have p3 := HR.out.cell 3
    have p4 := HR.out.cell 4
    simp only [List.getElem?_toArray, List.getElem?_cons_zero, List.getElem?_cons_succ] at p0 p1 p2 p3 p4
    refine bodyPost_ret (v := .tuple #[.agg #[.string ⟨#[]⟩, .bool false, .int .i64 0, .int .i64 0, .slice none 0 0], .int .i64 3]) (by simp [results, Tryz.results20, go_sem, p0, p1, p2, p3, p4]) rfl ⟨⟨.slice none 0 0, ?_, ?_⟩, HTu.out.below HBW.out HBW.out.size (fun i e => by omega)⟩
    · rw [HE.out.1, HE.out.2]; rfl
    · rw [HE.out.2]; exact RowAt.nil
  | succ q =>
    have HT := Lib.hid (cTopS (h.below hB0) eUnread aUnread hq)
    obtain ⟨z, hz, hlt, hlv, _⟩ := top_z hq
    obtain ⟨Al, cl, f1, hl1, hl2, hl3⟩ := (h.hold z (List.mem_of_getElem? hz)).1
    have hpl : z.1.pos < z.1.lines.length := by
      unfold Fr.live Fr.over at hlv
      simp at hlv
      exact hlv
    obtain ⟨gl, off, rfl, hKg, hrl⟩ := hl3 (by omega)
    have hlx := List.getElem?_eq_getElem hpl
    have HE := Lib.hid (live_at (fs := zs.map (fun z : Fv => z.1)) hq (get_fr hz) hlx)
    have hlr := hrl z.1.pos _ hlx
    generalize z.1.lines[z.1.pos] = l at hlx hlr HE
    obtain ⟨vb, hvb, hbx⟩ := hlr.c4
    have HOwn := Lib.hid (fun (w1 : World) (hb1 : Below w.heap.size w w1) => cCopyLn K l.text l.made l.up l.down vb l.boxes w1 (hbx.stay (Kept.of_all hb1) (fun _ h => h)) (fun i hi => Nat.lt_of_lt_of_le (HK.out i hi) hb1.size) hlr.s4)
    have HCell : Hid (∀ (w1 : World), Below w.heap.size w w1 → w1.cell? ⟨x, 0, none⟩ = some (.slice (some ⟨r, 0, none⟩) zs.length cap) ∧ w1.cell? ⟨r, q * 5 + 2, none⟩ = some (.slice (some ⟨gl, off, none⟩) z.1.lines.length cl) ∧ w1.cell? ⟨r, q * 5 + 3, none⟩ = some (.int .i64 (z.1.pos : Nat)) ∧
        w1.cell? ⟨gl, off + z.1.pos * 5, none⟩ = some (.string l.text) ∧ w1.cell? ⟨gl, off + z.1.pos * 5 + 1, none⟩ = some (.bool l.made) ∧ w1.cell? ⟨gl, off + z.1.pos * 5 + 2, none⟩ = some (.int .i64 l.up) ∧ w1.cell? ⟨gl, off + z.1.pos * 5 + 3, none⟩ = some (.int .i64 l.down) ∧ w1.cell? ⟨gl, off + z.1.pos * 5 + 4, none⟩ = some vb) := Lib.hid (fun w1 hb1 => by
      obtain ⟨q0, _, _, q2, q3, _⟩ := below_frc h hz hb1
      have c : ∀ {o : Nat} {v : Value}, w.cell? ⟨gl, o, none⟩ = some v → w1.cell? ⟨gl, o, none⟩ = some v := fun hc => (Kept.of_all (K := K) hb1).cell hKg hc
      exact ⟨q0, by rw [← f1]; exact q2, q3, c hlr.c0, c hlr.c1, c hlr.c2, c hlr.c3, c hvb⟩)
    obtain ⟨Ab, cb, rfl, _, _, _⟩ := hbx
    have hpI2 : (z.1.pos : Int) < (z.1.lines.length : Int) := by omega
    have hqI : (q : Int) < (zs.length : Int) := by omega
    have hpI3 : ¬ (z.1.pos : Int) < 0 := by omega
    have hqI3 : ¬ (q : Int) < 0 := by omega
    clear h hq hrb hB0 hlr hvb hlx hz hrl f1 hl3 hlv
    subst hw0
    go_enter Tryz.func20, Tryz.ntmps20
    go_wp2_with (first
      | (go_at_call 41; refine HZ.out.mono ?_; rintro e w1 ⟨rfl, hw⟩; rw [hw]; clear hw)
      | (go_at_call 49; refine HT.out.mono ?_; rintro e w4 ⟨rfl, hb1⟩; have HR4 := Lib.hid (HRb.out _ hb1); have HW4 := Lib.hid (HBw.out _ hb1); have c0 := (HCell.out _ HW4.out).1; clear hb1))
    go_region_held3 (fun w1 => w1.cell? ⟨x, 0, none⟩ = some (.slice (some ⟨r, 0, none⟩) zs.length cap) ∧ w1.cell? ⟨r, q * 5 + 2, none⟩ = some (.slice (some ⟨gl, off, none⟩) z.1.lines.length cl) ∧ w1.cell? ⟨r, q * 5 + 3, none⟩ = some (.int .i64 (z.1.pos : Nat)) ∧
        w1.cell? ⟨gl, off + z.1.pos * 5, none⟩ = some (.string l.text) ∧ w1.cell? ⟨gl, off + z.1.pos * 5 + 1, none⟩ = some (.bool l.made) ∧ w1.cell? ⟨gl, off + z.1.pos * 5 + 2, none⟩ = some (.int .i64 l.up) ∧ w1.cell? ⟨gl, off + z.1.pos * 5 + 3, none⟩ = some (.int .i64 l.down) ∧ w1.cell? ⟨gl, off + z.1.pos * 5 + 4, none⟩ = some (.slice Ab l.boxes.length cb))
      (first | exact HCell.out _ HW4.out | exact HCell.out _ HW4.out.drew | exact HCell.out _ HB6.out | exact HCell.out _ HB5.out)
      (first
        | (go_at_call 52; refine (HOwn.out _ HW4.out.drew).mono ?_; rintro e w5 ⟨A5, c5, rfl, hbx5, hb5⟩; have hr5 : Blk w5 w.heap.size 31 #[.string ⟨#[]⟩, .bool false, .int .i64 0, .int .i64 0, .slice none 0 0] := (hb5.block w.heap.size HR4.out.lt).trans HR4.out; have hf0 := hr5.frozen 0; have hf1 := hr5.frozen 1; have hf2 := hr5.frozen 2; have hf3 := hr5.frozen 3; have hf4 := hr5.frozen 4; have d0 := hr5.cell 0; have d1 := hr5.cell 1; have d2 := hr5.cell 2; have d3 := hr5.cell 3; have d4 := hr5.cell 4; simp only [List.getElem?_toArray, List.getElem?_cons_zero, List.getElem?_cons_succ] at d0 d1 d2 d3 d4; have HB5 := Lib.hid (HW4.out.drew.trans (hb5.mono HW4.out.drew.size)); obtain ⟨hT6, hR6⟩ := res_set hr5 (.string l.text) (.bool l.made) (.int .i64 l.up) (.int .i64 l.down) (.slice A5 l.boxes.length c5); have HB6 := Lib.hid (hT6.below HB5.out HB5.out.size (fun i e => by omega)); have HT6 := Lib.hid hT6; have HR6 := Lib.hid hR6; clear hr5 hT6 hR6; have HBx := Lib.hid hbx5; clear hbx5 hb5))
    go_wp2_with fail
    have p0 := HR6.out.cell 0
    have p1 := HR6.out.cell 1
    have p2 := HR6.out.cell 2
    have p3 := HR6.out.cell 3
    have p4 := HR6.out.cell 4
    simp only [List.getElem?_toArray, List.getElem?_cons_zero, List.getElem?_cons_succ] at p0 p1 p2 p3 p4
    refine bodyPost_ret (v := .tuple #[.agg #[.string l.text, .bool l.made, .int .i64 l.up, .int .i64 l.down, .slice A5 l.boxes.length c5], .int .i64 0]) (by simp [results, Tryz.results20, go_sem, p0, p1, p2, p3, p4]) rfl ⟨⟨.slice A5 l.boxes.length c5, ?_, ?_⟩, HB6.out⟩
    · rw [HE.out.1, HE.out.2]
    · rw [HE.out.2]
      exact HBx.out.stay (Kept.of_turn HT6.out (fun i hi e => by have h9 : w4.heap.size ≤ i := hi.1; have := HR4.out.lt; omega)) (fun i hi => ⟨Nat.le_trans HW4.out.size hi.1, Nat.lt_of_lt_of_le hi.2 HT6.out.size⟩)
end
end Go.Proofs.YtpgkhhchpojlaaaGreatDoor
