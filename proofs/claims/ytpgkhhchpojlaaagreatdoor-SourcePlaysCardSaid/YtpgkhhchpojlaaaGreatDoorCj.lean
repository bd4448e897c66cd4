/- Walk of the code's stack: a copy of a line. Walk of the code's stack: a copy of lines. -/
import Derived.Test.YtpgkhhchpojlaaaGreatDoorVo
import Derived.Test.YtpgkhhchpojlaaaGreatDoorKz
namespace Go.Proofs.YtpgkhhchpojlaaaGreatDoor
open Go.RowKit Go.Maps Go.WideMaps

/-- A row of boxes that is about to be gone over. -/
def RCb0 (K : Nat → Prop) (b n cap : Nat) (A : Option Addr) (bs : List Bx) (W : World) : Prop :=
  b ≤ W.heap.size ∧ (0 < n → ∃ g cs, A = some ⟨g, 0, none⟩ ∧ b ≤ g ∧ Blk W g 83 cs ∧ cs.size = cap * 7 ∧ ∀ (j : Nat) x, bs[j]? = some x → bxR K W g (j * 7) x)
set_option maxRecDepth 100000 in
set_option maxHeartbeats 2000000 in
/-- copyLine. -/
theorem cCopyLn (K : Nat → Prop) (t : ByteArray) (m : Bool) (u d : Int) (v : Value) (bs : List Bx) (w : World) (h : BxsAt K w v bs) (hK : ∀ k, K k → k < w.heap.size) (hz : bs.length ≤ 1599289640401) :
    Calls Tryz.prog 52 #[.agg #[.string t, .bool m, .int .i64 u, .int .i64 d, v]] w fun e w' => ∃ A c, e = .returned (.agg #[.string t, .bool m, .int .i64 u, .int .i64 d, .slice A bs.length c]) ∧ BxsAt (fun k => w.heap.size ≤ k ∧ k < w'.heap.size) w' (.slice A bs.length c) bs ∧ Below w.heap.size w w' := by
  have hs6 : ∀ (i : Nat) x, bs[i]? = some x → x.n.length * 8 ≤ 140737488355328 := fun i x hx => by
    obtain ⟨A, cap, rfl, h1, h2, h3⟩ := h
    have hi := (List.getElem?_eq_some_iff.1 hx).1
    obtain ⟨g, off, _, _, hr⟩ := h3 (by omega)
    exact (hr i x hx).s6
  obtain ⟨Av, cv, rfl, _, _, _⟩ := id h
  obtain ⟨w0, hw0⟩ : ∃ w0, w0 = (w.alloc (.cells #[.string t, .bool m, .int .i64 u, .int .i64 d, .slice Av bs.length cv] 31)).alloc (.cells #[.string ⟨#[]⟩, .bool false, .int .i64 0, .int .i64 0, .slice none 0 0] 31) := ⟨_, rfl⟩
  have hBa : Below w.heap.size w (w.alloc (.cells #[.string t, .bool m, .int .i64 u, .int .i64 d, .slice Av bs.length cv] 31)) := (Below.refl _ _).alloc (Nat.le_refl _) _
  have hB0 : Below w.heap.size w w0 := by rw [hw0]; exact hBa.alloc hBa.size _
  have hs0 : w0.heap.size = w.heap.size + 2 := by rw [hw0]; simp
  have hb1 : Blk w0 w.heap.size 31 #[.string t, .bool m, .int .i64 u, .int .i64 d, .slice Av bs.length cv] := by rw [hw0]; exact (Blk.new _ _ _).alloc _
  have hb2 : Blk w0 (w.heap.size + 1) 31 #[.string ⟨#[]⟩, .bool false, .int .i64 0, .int .i64 0, .slice none 0 0] := by rw [hw0]; have := Blk.new (w.alloc (.cells #[.string t, .bool m, .int .i64 u, .int .i64 d, .slice Av bs.length cv] 31)) 31 #[.string ⟨#[]⟩, .bool false, .int .i64 0, .int .i64 0, .slice none 0 0]; rwa [World.size_alloc] at this
  have HC := Lib.hid (Sto.cCloneB K _ bs w0 (h.stay (Kept.of_all hB0) (fun _ h => h)) hz)
  have HS := Lib.hid hs6
  have HK := Lib.hid hK
  have HB0 := Lib.hid hB0
  have HS0 := Lib.hid hs0
  have HW : Hid (∀ w1 (A : Option Addr) (cap : Nat), Below w0.heap.size w0 w1 → w1.cell? ⟨w.heap.size, 4, none⟩ = some (.slice Av bs.length cv) ∧ w1.frozen? ⟨w.heap.size, 4, none⟩ = false ∧ Blk (w1.setCell ⟨w.heap.size, 4, none⟩ (.slice A bs.length cap)) w.heap.size 31 #[.string t, .bool m, .int .i64 u, .int .i64 d, .slice A bs.length cap] ∧ Blk (w1.setCell ⟨w.heap.size, 4, none⟩ (.slice A bs.length cap)) (w.heap.size + 1) 31 #[.string ⟨#[]⟩, .bool false, .int .i64 0, .int .i64 0, .slice none 0 0] ∧ Below w.heap.size w (w1.setCell ⟨w.heap.size, 4, none⟩ (.slice A bs.length cap))) := Lib.hid (fun w1 A cap hb => by
    have h1 := hb1.below hb hb1.lt
    have h2 := hb2.below hb hb2.lt
    exact ⟨h1.cell 4, h1.frozen 4, blk_set h1 _, h2.far (by show w.heap.size + 1 ≠ w.heap.size; omega) _, (hB0.trans (hb.mono hB0.size)).setCell (p := ⟨w.heap.size, 4, none⟩) (Nat.le_refl _) _⟩)
  have d4 := hb1.cell 4
  simp only [List.getElem?_toArray, List.getElem?_cons_zero, List.getElem?_cons_succ] at d4
  clear h hs6 hK hBa hB0 hb1 hb2 hs0
  subst hw0
  go_enter Tryz.func52, Tryz.ntmps52
  go_wp2_with (go_at_call 73; refine HC.out.mono ?_; rintro e w1 ⟨v1, rfl, ⟨A, cap, rfl, hn, hm, hcl⟩, hb1⟩; obtain ⟨g1, g2, g3, g4, g5⟩ := HW.out w1 A cap hb1; have G3 := Lib.hid g3; have G4 := Lib.hid g4; have G5 := Lib.hid g5; have g34 := g3.cell 4; simp only [List.getElem?_toArray, List.getElem?_cons_zero, List.getElem?_cons_succ] at g34; have HCl := Lib.hid hcl; have HB1 := Lib.hid hb1; clear hcl hb1 g3 g4 g5)
  have hKb : ∀ k, K k → k < w.heap.size + 2 := fun k hk => by have := HK.out k hk; omega
  have hst : RCb0 K (w.heap.size + 2) bs.length cap A bs (w1.setCell ⟨w.heap.size, 4, none⟩ (.slice A bs.length cap)) := ⟨by have := HB1.out.size; have := HS0.out; have hT := turn_set w1 w.heap.size 4 (.slice A bs.length cap); have := hT.size; omega, fun h0 => by
    obtain ⟨g, cs, e, hbg, hb, hcs, hr⟩ := HCl.out (by omega)
    rw [HS0.out] at hbg
    have hT := turn_set w1 w.heap.size 4 (.slice A bs.length cap)
    have hne : g ≠ w.heap.size := by omega
    refine ⟨g, cs, e, hbg, hT.blk hb hne, hcs, fun j x hj => (hr j x hj).moved (fun k hk => cell_same (p := ⟨g, _, none⟩) (hT.block g hb.lt hne)) (Kept.of_turn hT (fun i hi e => by have := HK.out i hi; omega)) (fun _ h => h)⟩⟩
  have HSt := Lib.hid hst
  clear hst HCl HB1 HB0 HS0 HC HW g1 g2
  generalize w1.setCell ⟨w.heap.size, 4, none⟩ (.slice A bs.length cap) = W1 at *
  go_loopw [11] (fun v11 wr => Sto.RCb K (w.heap.size + 2) bs.length cap A bs W1 v11 wr) (fun v11 _ => bs.length - (intOf v11).toNat)
  case atStart =>
    obtain ⟨h1, h2⟩ := HSt.out
    refine ⟨0, Nat.zero_le _, rfl, Below.refl _ _, h1, fun h0 => ?_⟩
    obtain ⟨g, cs, e, hbg, hb, hcs, hr⟩ := h2 h0
    exact ⟨g, cs, e, hbg, hb, hcs, fun j x hj => ⟨fun h => absurd h (Nat.not_lt_zero _), fun _ => hr j x hj⟩⟩
  case round =>
    obtain ⟨i, hi, rfl, hB, hbw, hrow⟩ := hrel
    have HRow := Lib.hid hrow
    clear hrow
    have hq4 : ∀ w2, Below (w.heap.size + 2) W1 w2 → w2.cell? ⟨w.heap.size, 4, none⟩ = some (.slice A bs.length cap) := fun w2 hb => (G3.out.below hb (by omega)).cell 4
    have HQ4 := Lib.hid hq4
    have q4 := hq4 _ hB
    by_cases hlt : i < bs.length
    · obtain ⟨g, cs, rfl, hbg, hb, hcs, hr⟩ := HRow.out (by omega)
      have hx : bs[i]? = some bs[i] := List.getElem?_eq_getElem hlt
      have h0 := (hr i _ hx).2 (Nat.le_refl _)
      obtain ⟨v6, c6, hns⟩ := h0.c6
      obtain ⟨A6, n6, rfl, _, _, _⟩ := id hns
      have hz6 := HS.out i _ hx
      have hdr : Below wr.heap.size wr wr.drew := (Below.refl _ _).drew
      have HN := Lib.hid (Sto.cCloneN K _ bs[i].n wr.drew (NsAt.stay hns (Kept.of_all hdr) (fun _ h => h)) hz6)
      have hf6 := fun (w2 : World) (hb2 : Below wr.heap.size wr w2) => (show w2.frozen? ⟨g, i * 7 + 6, none⟩ = false from Blk.frozen ((hb2.block g hb.lt).trans hb : Blk w2 g 83 cs) _)
      have hc6 := fun (w2 : World) (hb2 : Below wr.heap.size wr w2) => (show w2.cell? ⟨g, i * 7 + 6, none⟩ = some (.slice A6 bs[i].n.length n6) from (cell_same (p := ⟨g, i * 7 + 6, none⟩) (hb2.block g hb.lt)).trans c6)
      have HStep := Lib.hid (fun (w2 : World) (v : Value) hb2 hv => Sto.RCb.step (v := v) (w1 := w2) hKb hbg hB hbw hb hcs hx (by omega) hr hb2 hv)
      have HF6 := Lib.hid hf6
      have HC6 := Lib.hid hc6
      have HBr := Lib.hid (fun (w2 : World) (hb2 : Below wr.heap.size wr w2) => hB.trans (hb2.mono hbw))
      clear h0 hns hz6 hr hf6 hc6 hq4
      generalize bs[i] = x at *
      go_wp2_with fail
      go_region_with (go_at_call 74; refine HN.out.mono ?_; rintro e w2 ⟨v2, rfl, hns2, ⟨A2, n2, c2, rfl⟩, hb2'⟩; have hb2 : Below wr.heap.size wr w2 := hdr.trans hb2'; have f6 := HF6.out _ hb2; have d6 := HC6.out _ hb2; have q42 := HQ4.out _ (HBr.out _ hb2))
      all_goals
        go_wp2_with fail
        go_roundw
        case rel =>
          obtain ⟨q1, q2, q3, q4, q5⟩ := HStep.out _ _ hb2 hns2
          exact ⟨i + 1, by omega, by go_num, q1, q2, fun _ => ⟨g, _, rfl, hbg, q3, q4, q5⟩⟩
        case measure => simp [intOf]; omega
    · have hb1' := G3.out.below hB (by omega)
      have hb2' := G4.out.below hB (by omega)
      have f0 := hb2'.frozen 0
      have f1 := hb2'.frozen 1
      have f2 := hb2'.frozen 2
      have f3 := hb2'.frozen 3
      have f4 := hb2'.frozen 4
      have e0 := hb2'.cell 0
      have e1 := hb2'.cell 1
      have e2 := hb2'.cell 2
      have e3 := hb2'.cell 3
      have e4 := hb2'.cell 4
      have d0 := hb1'.cell 0
      have d1 := hb1'.cell 1
      have d2 := hb1'.cell 2
      have d3 := hb1'.cell 3
      have d4 := hb1'.cell 4
      simp only [List.getElem?_toArray, List.getElem?_cons_zero, List.getElem?_cons_succ] at e0 e1 e2 e3 e4 d0 d1 d2 d3 d4
      obtain ⟨hT6, hR6⟩ := res_set hb2' (.string t) (.bool m) (.int .i64 u) (.int .i64 d) (.slice A bs.length cap)
      have p0 := hR6.cell 0
      have p1 := hR6.cell 1
      have p2 := hR6.cell 2
      have p3 := hR6.cell 3
      have p4 := hR6.cell 4
      simp only [List.getElem?_toArray, List.getElem?_cons_zero, List.getElem?_cons_succ] at p0 p1 p2 p3 p4
      have HP := Lib.hid (And.intro p0 (And.intro p1 (And.intro p2 (And.intro p3 p4))))
      have hsz := hT6.size
      have HBe := Lib.hid (hT6.below (G5.out.trans (hB.mono (by omega))) (by omega) (fun i hi => by omega))
      have HBx := Lib.hid (show BxsAt (fun k => w.heap.size ≤ k ∧ k < _) _ (.slice A bs.length cap) bs from ⟨A, cap, rfl, hn, hm, fun h0 => by
        obtain ⟨g, cs, e, hbg, hb, hcs, hr⟩ := HRow.out (by omega)
        refine ⟨g, 0, e, ⟨by omega, Nat.lt_of_lt_of_le hb.lt hsz⟩, fun j x hj => ?_⟩
        have hjl := (List.getElem?_eq_some_iff.1 hj).1
        have := (hr j x hj).1 (by omega)
        rw [Nat.zero_add]
        exact this.moved (fun k hk => cell_same (p := ⟨g, _, none⟩) (hT6.block g hb.lt (by omega))) (Kept.of_turn hT6 (fun k hk e => by have := hk.1; omega)) (fun k hk => ⟨by have := hk.1; omega, Nat.lt_of_lt_of_le hk.2.2 hsz⟩)⟩)
      clear hb1' hb2' hT6 hR6 p0 p1 p2 p3 p4 hq4
      go_wp2_with fail
      obtain ⟨p0, p1, p2, p3, p4⟩ := HP.out
      exact bodyPost_ret (v := .agg #[.string t, .bool m, .int .i64 u, .int .i64 d, .slice A bs.length cap]) (by simp [results, Tryz.results52, go_sem, p0, p1, p2, p3, p4]) rfl ⟨A, cap, rfl, HBx.out, HBe.out⟩
end Go.Proofs.YtpgkhhchpojlaaaGreatDoor
namespace Go.Proofs.YtpgkhhchpojlaaaGreatDoor
open Go.RowKit Go.Maps Go.WideMaps

section
variable {K : Nat → Prop} {w w' : World}
set_option maxRecDepth 100000 in
set_option maxHeartbeats 2000000 in
/-- copyLines. -/
theorem cCopyLns (v : Value) (ls : List Ln) (h : LnsAt K w v ls) (hK : ∀ k, K k → k < w.heap.size) (hz : ls.length ≤ 1000000000000) :
    Calls Tryz.prog 53 #[v] w fun e w' => ∃ v', e = .returned v' ∧ LnsAt (fun k => w.heap.size ≤ k ∧ k < w'.heap.size) w' v' ls ∧ Below w.heap.size w w' := by
  obtain ⟨i0, hi0, hz0, hz1, hz2⟩ := info_parts line_info
  obtain ⟨A, cap, rfl, hn, hm, hrow⟩ := h
  have HRow := Lib.hid hrow
  have HK := Lib.hid hK
  clear hrow hK
  go_enter Tryz.func53, Tryz.ntmps53
  go_wp2
  go_loopw [3, 8] (fun v3 v4 wr => ∃ (k : Nat) (css : List (List Value)), k ≤ ls.length ∧ v4 = .int .i64 k ∧ RowGo 5 lnP w.heap.size 31 wr v3 (ls.take k) css ∧ Below w.heap.size w wr) (fun _ v4 _ => ls.length - (intOf v4).toNat)
  case atStart => exact ⟨0, [], Nat.zero_le _, rfl, RowGo.nil _ _ _, Below.refl _ _⟩
  case round =>
    obtain ⟨k, css, hk, rfl, hgo, hb⟩ := hrel
    by_cases hlt : k < ls.length
    · obtain ⟨g, off, rfl, hKg, hr⟩ := HRow.out (by omega)
      have hx := List.getElem?_eq_getElem hlt
      have hlx := hr k _ hx
      generalize ls[k] = x at *
      have hlx' : lnR K wr g (off + k * 5) x := hlx.stay hKg (Kept.of_below hb HK.out) (fun _ h => h)
      obtain ⟨c0, c1, c2, c3, ⟨vb, c4, hbs⟩, hs0, hs4⟩ := hlx'
      obtain ⟨Ab, nb, cb, rfl⟩ : ∃ A n c, vb = .slice A n c := by
        obtain ⟨A, c, e, _⟩ := hbs
        exact ⟨A, _, c, e⟩
      obtain ⟨wr1, hwr1⟩ : ∃ wr1, wr1 = wr.alloc (.cells #[.string x.text, .bool x.made, .int .i64 x.up, .int .i64 x.down, .slice Ab nb cb] 31) := ⟨_, rfl⟩
      have hbx : Below wr.heap.size wr wr1 := by rw [hwr1]; exact (Below.refl _ _).alloc (Nat.le_refl _) _
      have hls1 := Lib.hid (Blk.new wr 31 #[.string x.text, .bool x.made, .int .i64 x.up, .int .i64 x.down, .slice Ab nb cb])
      have HOwn := Lib.hid (cCopyLn K x.text x.made x.up x.down (.slice Ab nb cb) x.boxes wr1 (hbs.stay (Kept.of_all hbx) (fun _ h => h)) (fun i hi => Nat.lt_of_lt_of_le (Nat.lt_of_lt_of_le (HK.out i hi) hb.size) hbx.size) hs4)
      have hlk : (ls.take k).length = k := by rw [List.length_take]; omega
      have hgo := RowGo.below (P := lnP) (fun h a b => h.stay a b) hgo hbx
      have hb' := hb.trans (hbx.mono hb.size)
      have hown := hgo.2.1
      rw [hlk] at hown
      obtain ⟨A3, c3', rfl, _, _⟩ := own_form2 hown
      have htk : ls.take (k + 1) = ls.take k ++ [x] := by
        obtain ⟨hk2, e2⟩ := List.getElem?_eq_some_iff.1 hx
        rw [List.take_succ_eq_append_getElem hk2, e2]
      have HSt : Hid (∀ (w1 : World) (v' : Value), Below wr1.heap.size wr1 w1 → BxsAt (fun k => wr1.heap.size ≤ k ∧ k < w1.heap.size) w1 v' x.boxes → (w1.alloc (.cells #[.string x.text, .bool x.made, .int .i64 x.up, .int .i64 x.down, v'] 31)).ownsRow w.heap.size 31 5 (.slice A3 k c3') k css.flatten ∧
          ∀ (w6 : World) (v1 : Value), (w1.alloc (.cells #[.string x.text, .bool x.made, .int .i64 x.up, .int .i64 x.down, v'] 31)).grownBy w6 (Value.slice A3 k c3').ownBlock → w6.ownsRow w.heap.size 31 5 v1 (k + 1) (css.flatten ++ [.string x.text, .bool x.made, .int .i64 x.up, .int .i64 x.down, v']) → (v1.ownBlock = (Value.slice A3 k c3').ownBlock ∨ v1.ownBlock = some (w1.alloc (.cells #[.string x.text, .bool x.made, .int .i64 x.up, .int .i64 x.down, v'] 31)).heap.size) →
          RowGo 5 lnP w.heap.size 31 w6 v1 (ls.take (k + 1)) (css ++ [[.string x.text, .bool x.made, .int .i64 x.up, .int .i64 x.down, v']]) ∧ Below w.heap.size w w6) := Lib.hid (fun w1 v' hb1 hv' => by
        have hb5 := hb1.alloc hb1.size (.cells #[.string x.text, .bool x.made, .int .i64 x.up, .int .i64 x.down, v'] 31)
        have ho5 := own_turn (S := fun _ => False) hown (Turn.of_below hb5) (fun _ _ => id)
        refine ⟨ho5, fun w6 v1 hg hown1 hat => ⟨?_, (hb'.trans (hb5.mono hb'.size)).grown hg (by have := hb'.size; have := hb5.size; omega) (fun q hq => own_ge ho5 hq)⟩⟩
        have hg5 := RowGo.below (P := lnP) (fun h a b => h.stay a b) hgo hb5
        rw [htk]
        refine RowGo.step (P := lnP) (fun h a b => h.stay a b) hg5 (x := x) hg rfl ⟨v', rfl, hv'.stay (Kept.of_all ((Below.refl _ _).alloc (Nat.le_refl _) _)) (fun i hi => ⟨by have := hb'.size; have := hi.1; omega, by have := hi.2; simp; omega, fun e => by have := (hown.lt i e).2; have := hi.1; omega⟩), hs0, hs4⟩ (by rw [hlk]; exact hown1) hat)
      have d0 := hls1.out.cell 0
      have d1 := hls1.out.cell 1
      have d2 := hls1.out.cell 2
      have d3 := hls1.out.cell 3
      have d4 := hls1.out.cell 4
      simp only [List.getElem?_toArray, List.getElem?_cons_zero, List.getElem?_cons_succ] at d0 d1 d2 d3 d4
      have HB' := Lib.hid hb'.size
      have HBX := Lib.hid hbx.size
      clear hgo hlk htk hown hbs hlx hr hx hbx hb'
      subst hwr1
      go_wp2_with (first
        | (go_at_call 52; refine HOwn.out.mono ?_; rintro e w1 ⟨Av, cv, rfl, hv', hb1⟩; obtain ⟨HO5, hstep⟩ := HSt.out w1 _ hb1 hv'; have HStep := Lib.hid hstep; have HO := Lib.hid HO5; have hn5 := Lib.hid (Blk.new w1 31 #[.string x.text, .bool x.made, .int .i64 x.up, .int .i64 x.down, .slice Av x.boxes.length cv]); clear hstep HO5 hv')
        | (at_builtin
           refine wpList_append_own_at _ rfl (.tmp 12) (.tmp 15) _ rfl w.heap.size 31 i0 _ 5 64 Tryz.underlying35 hi0 hz0 hz1 hz2 rfl (by omega) (.slice A3 k c3') k _ rfl HO.out ⟨w1.heap.size, 0, none⟩ 1 1 [.string x.text, .bool x.made, .int .i64 x.up, .int .i64 x.down, .slice Av x.boxes.length cv] rfl
             rfl (cells_new hn5.out) (by intro u hu; simp only [List.mem_cons, List.not_mem_nil, or_false] at hu; rcases hu with rfl | rfl | rfl | rfl | rfl <;> rfl) (by unfold maxLen; omega) (by omega) (by have := HB'.out; have := HBX.out; have := hb1.size; simp at *; omega) ?_
           intro v1 w6 hown1 hg1 _ hat1))
      go_roundw
      case rel =>
        obtain ⟨q1, q2⟩ := HStep.out w6 v1 hg1 hown1 hat1
        exact ⟨k + 1, _, by omega, by go_num, q1, q2⟩
      case measure => simp [intOf]; omega
    · have e : k = ls.length := by omega
      subst e
      rw [List.take_length] at hgo
      have hrow := (RowGo.row (P := lnP) (R := lnR) (fun h hc => h.r hc) (fun h hK => h.on hK) hgo)
      have HR := Lib.hid hrow
      clear hgo hrow
      go_wp2
      go_ret
      exact ⟨_, rfl, HR.out, hb⟩
end
end Go.Proofs.YtpgkhhchpojlaaaGreatDoor
