/- Walk: push, of the document's stack. -/
import Derived.Test.YtpgkhhchpojlaaaGreatDoorKz
import Derived.Test.YtpgkhhchpojlaaaGreatDoorKb
namespace Go.Proofs.YtpgkhhchpojlaaaGreatDoor
open Go.RowKit Go.Maps Go.WideMaps

section
variable {U K : Nat → Prop} {w w' : World} {x : Nat} {fs : List Fr}
set_option maxRecDepth 100000 in
set_option maxHeartbeats 1600000 in
/-- push. -/
theorem nPush (f : Fr) (A1 : Option Addr) (n1 c1 : Nat) (A2 : Option Addr) (n2 c2 : Nat) (hf : f.Ok) (hz : Holds2 K w (f, .slice A1 n1 c1, .slice A2 n2 c2)) (h : RKt U K w x fs) :
    Calls Tryz.prog 60 #[.pointer (some ⟨x, 0, none⟩), .agg #[.int .i64 f.kind, .string f.name, .slice A1 n1 c1, .slice A2 n2 c2, .int .i64 (f.pos : Nat)]] w fun e w' => e = .returned (.int .i64 (psE fs)) ∧ KTo U K w w' x (psF fs f) := by
  obtain ⟨i0, hi0, hz0, hz1, hz2⟩ := info_parts frame_info
  have HSame := Lib.hid (fun (w1 : World) (hb : Below w.heap.size w w1) => KTo.same h hb)
  obtain ⟨zs, v, h, rfl⟩ := h
  obtain ⟨w0, hw0⟩ : ∃ w0, w0 = w.alloc (.cells #[.int .i64 f.kind, .string f.name, .slice A1 n1 c1, .slice A2 n2 c2, .int .i64 (f.pos : Nat)] 64) := ⟨_, rfl⟩
  have hB0 : Below w.heap.size w w0 := by rw [hw0]; exact (Below.refl _ _).alloc (Nat.le_refl _) _
  have hs0 : w0.heap.size = w.heap.size + 1 := by rw [hw0]; simp
  have hzb : Blk w0 w.heap.size 64 #[.int .i64 f.kind, .string f.name, .slice A1 n1 c1, .slice A2 n2 c2, .int .i64 (f.pos : Nat)] := by rw [hw0]; exact Blk.new _ _ _
  have h0 := h.below hB0
  obtain ⟨A, cap, rfl, hcap, hA⟩ := own_form2 h.own
  have hcx : ∀ w1, Below w0.heap.size w0 w1 → w1.cell? ⟨x, 1, none⟩ = some (.slice A zs.length cap) := fun w1 hb => (h0.below hb).c1
  have c1' := hcx _ (Below.refl _ _)
  have c1'' := hcx _ ((Below.refl w0.heap.size w0).alloc (Nat.le_refl _) (.cells #[] 64))
  have hlen := h.len
  obtain ⟨v5, w3, qrun, hown, hb03, A5, c5, rfl⟩ := runCopy (t := 50) (bytes := 80) Tryz.underlying50 frame_info rfl (by omega) w0 50 A zs.length cap (rkCs zs) rkCs_len
    (fun hp => by obtain ⟨g, rfl⟩ := hA hp; exact ⟨g, 0, rfl, fun j u hu => by rw [Nat.zero_add]; exact own_cellAt h0.own hu⟩) (one_all h.hold) (by omega) (by omega)
  rw [hs0] at hown qrun
  have hA5n : 0 < zs.length → ∃ g, A5 = some ⟨g, 0, none⟩ := fun hp => by
    obtain ⟨g, c, e, _⟩ := own_pos hown hp
    injection e with e
    exact ⟨g, e⟩
  have hc5 : zs.length ≤ c5 := by
    obtain ⟨A', c', e, hc, _⟩ := own_form2 hown
    injection e with _ _ e
    rw [e]; exact hc
  have HA5 := Lib.hid hA5n
  have HOw : Hid (∀ (wr : World), Below w3.heap.size w3 wr → ∀ (m : Nat), m ≤ zs.length → wr.ownsRow (w.heap.size + 1) 64 5 (.slice A5 m c5) m (rkCs (zs.take m))) := Lib.hid (fun wr hb m hm => by
    rw [rkCs_take]
    exact own_take (own_turn (S := fun _ => False) hown (Turn.of_below hb) (fun _ _ => id)) hm)
  have HBw3 : Hid (∀ (wr : World), Below w3.heap.size w3 wr → Below w.heap.size w wr) := Lib.hid (fun wr hb => hB0.trans ((hb03.trans (hb.mono hb03.size)).mono hB0.size))
  have HZr : Hid (∀ (wr : World), Below w3.heap.size w3 wr → Blk wr w.heap.size 64 #[.int .i64 f.kind, .string f.name, .slice A1 n1 c1, .slice A2 n2 c2, .int .i64 (f.pos : Nat)]) := Lib.hid (fun wr hb => hzb.below (hb03.trans (hb.mono hb03.size)) hzb.lt)
  have HBs : Hid (w.heap.size + 1 ≤ w3.heap.size) := Lib.hid (by have := hb03.size; omega)
  have HFin : Hid (∀ (m : Nat) (wr w6 : World) (v' : Value), m ≤ zs.length → m < 50 → Below w3.heap.size w3 wr → (wr.alloc (.cells #[.int .i64 f.kind, .string f.name, .slice A1 n1 c1, .slice A2 n2 c2, .int .i64 (f.pos : Nat)] 64)).grownBy w6 (Value.slice A5 m c5).ownBlock → (∀ q, (Value.slice A5 m c5).ownBlock = some q → w.heap.size + 1 ≤ q) →
      w6.ownsRow (w.heap.size + 1) 64 5 v' (m + 1) (rkCs (zs.take m) ++ [.int .i64 f.kind, .string f.name, .slice A1 n1 c1, .slice A2 n2 c2, .int .i64 (f.pos : Nat)]) →
      w6.cell? ⟨x, 1, none⟩ = some (.slice A zs.length cap) ∧ w6.frozen? ⟨x, 1, none⟩ = false ∧ KTo U K w (w6.setCell ⟨x, 1, none⟩ v') x ((zs.take m ++ ([(f, .slice A1 n1 c1, .slice A2 n2 c2)] : List Fv)).map (fun z : Fv => z.1))) := Lib.hid (fun m wr w6 v' hm hm5 hb hg hq ho => by
    have hbw := HBw3.out wr hb
    have hb6 : Below w.heap.size w w6 := (hbw.alloc hbw.size _).grown hg (by have := hbw.size; simp; omega) (fun q hq' => by have := hq q hq'; omega)
    have h6 := h.below hb6
    refine ⟨h6.c1, h6.f1, h.lay hb6 (B := w.heap.size + 1) (by omega) ?_ (fun z hz' => ?_) ?_⟩
    · rw [List.length_append, List.length_take, Nat.min_eq_left hm, rkCs_app, rkCs_one]
      exact ho
    · rcases List.mem_append.1 hz' with hz' | hz'
      · exact h6.hold z (List.mem_of_mem_take hz')
      · rw [List.mem_singleton.1 hz']
        exact hz.stay (Kept.of_all hb6) (fun _ h => h)
    · rw [List.map_append, List.map_take]
      exact h.ok.push hf hm5)
  have HHold := Lib.hid h.hold
  clear h0 h hz hcx hown hb03 hB0 hzb hA hA5n
  subst hw0
  go_enter Tryz.func60, Tryz.ntmps60
  go_wp2_with (at_builtin
               refine wpList_append_run _ rfl (.tmp 6) (.tmp 10) _ rfl _ _ rfl rfl _ _ qrun ?_
               clear qrun)
  go_loopw [5] (fun v5 wr => ∃ m : Nat, m ≤ zs.length ∧ v5 = .slice A5 m c5 ∧ Below w3.heap.size w3 wr ∧ ∀ (j : Nat) f, m ≤ j → (zs.map (·.1))[j]? = some f → (!(f.is 3 && f.over)) = false) (fun v5 _ => match v5 with | .slice _ m _ => m | _ => 0)
  case atStart => exact ⟨zs.length, Nat.le_refl _, rfl, Below.refl _ _, fun j f hj hf => by
    have := (List.getElem?_eq_some_iff.1 hf).1
    rw [List.length_map] at this
    omega⟩
  case round =>
    obtain ⟨m, hm, rfl, hb3, hall⟩ := hrel
    have HAll := Lib.hid hall
    clear hall
    rcases Nat.eq_zero_or_pos m with rfl | hm0
    · have hbn : baseN (zs.map (·.1)) = 0 := topN_of (Nat.zero_le _) HAll.out (fun h => absurd h (Nat.lt_irrefl 0))
      have HBN := Lib.hid hbn
      clear hbn
      have h50 : ¬ 50 ≤ 0 := by omega
      have hOm := HOw.out wr hb3 0 hm
      have HO6 := Lib.hid (hOm.alloc (.cells #[.int .i64 f.kind, .string f.name, .slice A1 n1 c1, .slice A2 n2 c2, .int .i64 (f.pos : Nat)] 64))
      have hn6 := Lib.hid (Blk.new wr 64 #[.int .i64 f.kind, .string f.name, .slice A1 n1 c1, .slice A2 n2 c2, .int .i64 (f.pos : Nat)])
      have hzr : Blk wr w.heap.size 64 #[.int .i64 f.kind, .string f.name, .slice A1 n1 c1, .slice A2 n2 c2, .int .i64 (f.pos : Nat)] := HZr.out wr hb3
      have z0 := hzr.cell 0
      have z1 := hzr.cell 1
      have z2 := hzr.cell 2
      have z3 := hzr.cell 3
      have z4 := hzr.cell 4
      simp only [List.getElem?_toArray, List.getElem?_cons_zero, List.getElem?_cons_succ] at z0 z1 z2 z3 z4
      clear hOm hzr
      go_wp2_with (at_builtin
                   refine wpList_append_own_at _ rfl (.tmp 43) (.tmp 45) _ rfl (w.heap.size + 1) 64 i0 _ 5 80 Tryz.underlying50 hi0 hz0 hz1 hz2 rfl (by omega) (.slice A5 0 c5) 0 _ rfl HO6.out ⟨wr.heap.size, 0, none⟩ 1 1 [.int .i64 f.kind, .string f.name, .slice A1 n1 c1, .slice A2 n2 c2, .int .i64 (f.pos : Nat)] rfl rfl (cells_new hn6.out) (by intro u hu; simp only [List.mem_cons, List.not_mem_nil, or_false] at hu; rcases hu with rfl | rfl | rfl | rfl | rfl <;> rfl) (by unfold maxLen; omega) (by omega) (by have := HBs.out; have := hb3.size; simp; omega) ?_
                   intro v1 w6 hown1 hg1 _ _
                   obtain ⟨Av1, cv1, rfl, _, _⟩ := own_form2 hown1
                   obtain ⟨hx1, hx2, hxk⟩ := HFin.out 0 wr w6 _ hm (by omega) hb3 hg1 (fun q hq => own_ge HO6.out hq) hown1
                   have HXK := Lib.hid hxk
                   clear hxk hown1 hg1)
      go_ret
      exact ⟨ret_i (by unfold psE; rw [HBN.out, if_neg h50]), by unfold psF; rw [HBN.out, if_neg h50]; have := HXK.out; rw [List.map_append, List.map_take] at this; exact this⟩
    · obtain ⟨q, rfl⟩ : ∃ q, m = q + 1 := ⟨m - 1, by omega⟩
      obtain ⟨g, hA5⟩ := HA5.out (by omega)
      subst hA5
      have hz := List.getElem?_eq_getElem (show q < zs.length by omega)
      generalize zs[q] = z at hz
      have hOf := HOw.out wr hb3 (q + 1) hm
      have hz' : (zs.take (q + 1))[q]? = some z := by rw [List.getElem?_take, if_pos (by omega)]; exact hz
      have k0 : wr.cell? ⟨g, q * 5, none⟩ = _ := own_cellAt hOf (rkCs_at hz' 0 (by omega))
      have k1 : wr.cell? ⟨g, q * 5 + 1, none⟩ = _ := own_cellAt hOf (rkCs_at hz' 1 (by omega))
      have k2 : wr.cell? ⟨g, q * 5 + 2, none⟩ = _ := own_cellAt hOf (rkCs_at hz' 2 (by omega))
      have k3 : wr.cell? ⟨g, q * 5 + 3, none⟩ = _ := own_cellAt hOf (rkCs_at hz' 3 (by omega))
      have k4 : wr.cell? ⟨g, q * 5 + 4, none⟩ = _ := own_cellAt hOf (rkCs_at hz' 4 (by omega))
      obtain ⟨HZ1, HZ2⟩ := HHold.out z (List.mem_of_getElem? hz)
      obtain ⟨Al, cl, e1, _⟩ := HZ1
      obtain ⟨As, cs, e2, _⟩ := HZ2
      have HOver := Lib.hid (nOver z.1.kind z.1.name Al z.1.lines.length cl As z.1.args.length cs z.1.pos wr)
      rw [e1] at k2
      rw [e2] at k3
      have HZ := Lib.hid hz
      clear hOf hz hz' e1 e2
      by_cases hk : z.1.kind = 3
      · by_cases ho : z.1.lines.length ≤ z.1.pos
        · have hB : (z.1.kind == 3) = true := by simp [hk]
          have HI : Hid ((!(z.1.is 3 && z.1.over)) = false) := Lib.hid (by rw [idle_yes hk]; simpa [Fr.over] using ho)
          rw [decide_eq_true ho] at HOver
          clear hk ho
          go_wp2_with (go_at_call 62; refine HOver.out.mono ?_; rintro e w4 ⟨rfl, hb4⟩)
          go_roundw
          case rel => exact ⟨q, by omega, by go_num, hb3.trans (hb4.mono hb3.size), fun j f hj hf => by
            by_cases e : j = q
            · subst e
              obtain ⟨z', h1, h2⟩ := fr_get hf
              rw [HZ.out] at h1
              injection h1 with h1
              subst h1 h2
              exact HI.out
            · exact HAll.out j f (by omega) hf⟩
          case measure => simp
        · have hB : (z.1.kind == 3) = true := by simp [hk]
          have hbn : baseN (zs.map (·.1)) = q + 1 := topN_of (by rw [List.length_map]; exact hm) HAll.out (fun _ => ⟨z.1, get_fr HZ.out, by rw [idle_yes hk]; simpa [Fr.over] using ho⟩)
          rw [decide_eq_false ho] at HOver
          clear hk ho
          have HBN := Lib.hid hbn
          clear hbn
          by_cases h50 : 50 ≤ (q + 1)
          · have h50i : (50 : Int) ≤ ((q + 1) : Nat) := by omega
            go_wp2_with (go_at_call 62; refine HOver.out.mono ?_; rintro e w4 ⟨rfl, hb4⟩; have hb34 := hb3.trans (hb4.mono hb3.size); clear hb4)
            go_ret
            exact ⟨ret_i (by unfold psE; rw [HBN.out, if_pos h50]), by unfold psF; rw [HBN.out, if_pos h50]; exact HSame.out w4 (HBw3.out w4 hb34)⟩
          · have h50i : ¬ (50 : Int) ≤ ((q + 1) : Nat) := by omega

            go_wp2_with (first
              | (go_at_call 62; refine HOver.out.mono ?_; rintro e w4 ⟨rfl, hb4⟩; have hb34 := hb3.trans (hb4.mono hb3.size); clear hb4
                 have hOm := HOw.out w4 hb34 (q + 1) hm
                 have HO6 := Lib.hid (hOm.alloc (.cells #[.int .i64 f.kind, .string f.name, .slice A1 n1 c1, .slice A2 n2 c2, .int .i64 (f.pos : Nat)] 64))
                 have hn6 := Lib.hid (Blk.new w4 64 #[.int .i64 f.kind, .string f.name, .slice A1 n1 c1, .slice A2 n2 c2, .int .i64 (f.pos : Nat)])
                 have hzr : Blk w4 w.heap.size 64 #[.int .i64 f.kind, .string f.name, .slice A1 n1 c1, .slice A2 n2 c2, .int .i64 (f.pos : Nat)] := HZr.out w4 hb34
                 have z0 := hzr.cell 0
                 have z1 := hzr.cell 1
                 have z2 := hzr.cell 2
                 have z3 := hzr.cell 3
                 have z4 := hzr.cell 4
                 simp only [List.getElem?_toArray, List.getElem?_cons_zero, List.getElem?_cons_succ] at z0 z1 z2 z3 z4
                 clear hOm hzr)
              | (at_builtin
                 refine wpList_append_own_at _ rfl (.tmp 43) (.tmp 45) _ rfl (w.heap.size + 1) 64 i0 _ 5 80 Tryz.underlying50 hi0 hz0 hz1 hz2 rfl (by omega) (.slice (some ⟨g, 0, none⟩) (q + 1) c5) (q + 1) _ rfl HO6.out ⟨w4.heap.size, 0, none⟩ 1 1 [.int .i64 f.kind, .string f.name, .slice A1 n1 c1, .slice A2 n2 c2, .int .i64 (f.pos : Nat)] rfl rfl (cells_new hn6.out) (by intro u hu; simp only [List.mem_cons, List.not_mem_nil, or_false] at hu; rcases hu with rfl | rfl | rfl | rfl | rfl <;> rfl) (by unfold maxLen; omega) (by omega) (by have := HBs.out; have := hb34.size; simp; omega) ?_
                 intro v1 w6 hown1 hg1 _ _
                 obtain ⟨Av1, cv1, rfl, _, _⟩ := own_form2 hown1
                 obtain ⟨hx1, hx2, hxk⟩ := HFin.out (q + 1) w4 w6 _ hm (by omega) hb34 hg1 (fun q hq => own_ge HO6.out hq) hown1
                 have HXK := Lib.hid hxk
                 clear hxk hown1 hg1))
            go_ret
            exact ⟨ret_i (by unfold psE; rw [HBN.out, if_neg h50]), by unfold psF; rw [HBN.out, if_neg h50]; have := HXK.out; rw [List.map_append, List.map_take] at this; exact this⟩
      · have hB : (z.1.kind == 3) = false := by simp [hk]
        have hbn : baseN (zs.map (·.1)) = q + 1 := topN_of (by rw [List.length_map]; exact hm) HAll.out (fun _ => ⟨z.1, get_fr HZ.out, idle_no hk⟩)
        clear hk HOver
        have HBN := Lib.hid hbn
        clear hbn
        by_cases h50 : 50 ≤ (q + 1)
        · have h50i : (50 : Int) ≤ ((q + 1) : Nat) := by omega
          go_wp2_with fail
          go_ret
          exact ⟨ret_i (by unfold psE; rw [HBN.out, if_pos h50]), by unfold psF; rw [HBN.out, if_pos h50]; exact HSame.out wr (HBw3.out wr hb3)⟩
        · have h50i : ¬ (50 : Int) ≤ ((q + 1) : Nat) := by omega
          have hOm := HOw.out wr hb3 (q + 1) hm
          have HO6 := Lib.hid (hOm.alloc (.cells #[.int .i64 f.kind, .string f.name, .slice A1 n1 c1, .slice A2 n2 c2, .int .i64 (f.pos : Nat)] 64))
          have hn6 := Lib.hid (Blk.new wr 64 #[.int .i64 f.kind, .string f.name, .slice A1 n1 c1, .slice A2 n2 c2, .int .i64 (f.pos : Nat)])
          have hzr : Blk wr w.heap.size 64 #[.int .i64 f.kind, .string f.name, .slice A1 n1 c1, .slice A2 n2 c2, .int .i64 (f.pos : Nat)] := HZr.out wr hb3
          have z0 := hzr.cell 0
          have z1 := hzr.cell 1
          have z2 := hzr.cell 2
          have z3 := hzr.cell 3
          have z4 := hzr.cell 4
          simp only [List.getElem?_toArray, List.getElem?_cons_zero, List.getElem?_cons_succ] at z0 z1 z2 z3 z4
          clear hOm hzr
          go_wp2_with (at_builtin
                       refine wpList_append_own_at _ rfl (.tmp 43) (.tmp 45) _ rfl (w.heap.size + 1) 64 i0 _ 5 80 Tryz.underlying50 hi0 hz0 hz1 hz2 rfl (by omega) (.slice (some ⟨g, 0, none⟩) (q + 1) c5) (q + 1) _ rfl HO6.out ⟨wr.heap.size, 0, none⟩ 1 1 [.int .i64 f.kind, .string f.name, .slice A1 n1 c1, .slice A2 n2 c2, .int .i64 (f.pos : Nat)] rfl rfl (cells_new hn6.out) (by intro u hu; simp only [List.mem_cons, List.not_mem_nil, or_false] at hu; rcases hu with rfl | rfl | rfl | rfl | rfl <;> rfl) (by unfold maxLen; omega) (by omega) (by have := HBs.out; have := hb3.size; simp; omega) ?_
                       intro v1 w6 hown1 hg1 _ _
                       obtain ⟨Av1, cv1, rfl, _, _⟩ := own_form2 hown1
                       obtain ⟨hx1, hx2, hxk⟩ := HFin.out (q + 1) wr w6 _ hm (by omega) hb3 hg1 (fun q hq => own_ge HO6.out hq) hown1
                       have HXK := Lib.hid hxk
                       clear hxk hown1 hg1)
          go_ret
          exact ⟨ret_i (by unfold psE; rw [HBN.out, if_neg h50]), by unfold psF; rw [HBN.out, if_neg h50]; have := HXK.out; rw [List.map_append, List.map_take] at this; exact this⟩
end
end Go.Proofs.YtpgkhhchpojlaaaGreatDoor
