/- Walk: an own copy of a line, the document's. Walk: own copies of lines, the document's. -/
import Derived.Test.YtpgkhhchpojlaaaGreatDoorEd
import Derived.Deep.Cut
namespace Go.Proofs.YtpgkhhchpojlaaaGreatDoor
open Go.RowKit Go.Maps Go.WideMaps

section
variable {K : Nat → Prop} {w w' : World}
set_option maxRecDepth 100000 in
/-- append, of numbers onto a new empty row. -/
theorem runN (w1 : World) (ty : TypeId) (An : Option Addr) (n cn : Nat) (l : List Int) (h : NsAt K w1 (.slice An n cn) l) (hz : l.length * 8 ≤ 140737488355328) :
    ∃ A' c' w3, (Builtin.append_ #[81, 81] ty #[.slice (some ⟨w1.heap.size, 0, none⟩) 0 0, .slice An n cn]).run Tryz.prog (w1.alloc (.cells #[] 3)) = .ok (.slice A' n c') w3 ∧ NsAt (fun k => w1.heap.size ≤ k ∧ k < w3.heap.size) w3 (.slice A' n c') l ∧ Below w1.heap.size w1 w3 ∧ n = l.length ∧ w1.heap.size < w3.heap.size := by
  obtain ⟨j0, hj0, hy0, hy1, hy2⟩ := info_parts ints_info
  obtain ⟨A, c, e, h1, h2, h3⟩ := h
  injection e with e1 e2 e3
  subst e1 e2 e3
  have hb1 : Below w1.heap.size w1 (w1.alloc (.cells #[] 3)) := (Below.refl _ _).alloc (Nat.le_refl _) _
  by_cases h0 : l.length = 0
  · have hl : l = [] := List.length_eq_zero_iff.1 h0
    subst hl
    refine ⟨_, 0, _, run_append_zero (P := Tryz.prog) _ 81 ty 3 j0 Tryz.underlying81 hj0 (some ⟨w1.heap.size, 0, none⟩) 0 0 (Nat.le_refl _) An cn, ?_, hb1, rfl, by simp⟩
    exact ⟨_, 0, rfl, Nat.le_refl _, Nat.zero_le _, fun h => absurd h (Nat.lt_irrefl 0)⟩
  · obtain ⟨g, off, rfl, hk, hr⟩ := h3 (by omega)
    have ho := World.ownsRow_lit (e := 3) (size := 1) w1 #[] 0 (Nat.le_refl _) (by unfold maxLen; omega) rfl
    have hnews : ∀ j u, (l.map (Value.int .i64))[j]? = some u → (w1.alloc (.cells #[] 3)).cell? ((⟨g, off, none⟩ : Addr).add j) = some u := fun j u hj => by
      rw [List.getElem?_map] at hj
      cases hl : l[j]? with
      | none => rw [hl] at hj; cases hj
      | some y =>
        rw [hl] at hj
        injection hj with hj
        rw [off_add, ← hj]
        have hc := hr j y hl
        rw [Nat.mul_one] at hc
        exact (cell_same (p := ⟨g, off + j, none⟩) (hb1.block g (cell_lt hc))).trans hc
    obtain ⟨v', w3, q1, q2, q3, q4, q5⟩ := run_append_own_at (P := Tryz.prog) (w1.alloc (.cells #[] 3)) w1.heap.size 81 ty 3 j0 _ 1 8 Tryz.underlying81 hj0 hy0 hy1 hy2 rfl (by omega) (.slice (some ⟨w1.heap.size, 0, none⟩) 0 0) 0 [] ho ⟨g, off, none⟩ l.length cn (l.map (Value.int .i64)) (by rw [List.length_map, Nat.mul_one]) hnews
      (by intro u hu; obtain ⟨y, _, rfl⟩ := List.mem_map.1 hu; rfl) (by unfold maxLen; omega) (by omega) (by simp)
    rw [Nat.zero_add, List.nil_append] at q2
    have hb3 : Below w1.heap.size w1 w3 := hb1.grown q3 (by simp) (fun k hk => by injection hk with hk; exact Nat.le_of_eq hk)
    rcases q2.2 with ⟨_, e0⟩ | ⟨g', cap', cur, rfl, hbg, hg', hn, hm', _⟩
    · omega
    · refine ⟨_, cap', w3, q1, ⟨_, cap', rfl, hn, hm', fun _ => ⟨g', 0, rfl, ⟨hbg, (show Blk w3 g' _ cur from hg').lt⟩, fun i y hy => ?_⟩⟩, hb3, rfl, Nat.lt_of_le_of_lt hbg (show Blk w3 g' _ cur from hg').lt⟩
      have hil := (List.getElem?_eq_some_iff.1 hy).1
      show w3.cell? ⟨g', 0 + i * 1, none⟩ = _
      rw [Nat.mul_one, Nat.zero_add, q2.cellAt _ (by omega), List.getElem?_map, hy]
      rfl
set_option maxRecDepth 100000 in
set_option maxHeartbeats 2000000 in
/-- Own. -/
theorem nOwn (t : ByteArray) (m : Bool) (u d : Int) (v : Value) (bs : List Bx) (h : BxsAt K w v bs) (hK : ∀ k, K k → k < w.heap.size) (hz : bs.length ≤ 1599289640401) :
    Calls Tryz.prog 63 #[.agg #[.string t, .bool m, .int .i64 u, .int .i64 d, v]] w fun e w' => ∃ v', e = .returned (.agg #[.string t, .bool m, .int .i64 u, .int .i64 d, v']) ∧ BxsAt (fun k => w.heap.size ≤ k ∧ k < w'.heap.size) w' v' bs ∧ Below w.heap.size w w' := by
  obtain ⟨i0, hi0, hz0, hz1, hz2⟩ := info_parts box_info
  obtain ⟨j0, hj0, hy0, hy1, hy2⟩ := info_parts ints_info
  obtain ⟨A, cap, rfl, hn, hm, hrow⟩ := h
  have HRow := Lib.hid hrow
  have HK := Lib.hid hK
  have hb0 : Below w.heap.size w (w.alloc (.cells #[.string t, .bool m, .int .i64 u, .int .i64 d, .slice A bs.length cap] 31)) := (Below.refl _ _).alloc (Nat.le_refl _) _
  obtain ⟨w0, hw0⟩ : ∃ w0, w0 = ((w.alloc (.cells #[.string t, .bool m, .int .i64 u, .int .i64 d, .slice A bs.length cap] 31)).alloc (.cells #[.string ⟨#[]⟩, .bool false, .int .i64 0, .int .i64 0, .slice none 0 0] 31)) := ⟨_, rfl⟩
  have hB0 : Below w.heap.size w w0 := by rw [hw0]; exact hb0.alloc (by simp) _
  have hl1 : Blk w0 w.heap.size 31 #[.string t, .bool m, .int .i64 u, .int .i64 d, .slice A bs.length cap] := by rw [hw0]; exact (Blk.new _ _ _).alloc _
  have hs0 : w0.heap.size = w.heap.size + 2 := by rw [hw0]; simp
  have hl2 : Blk w0 (w.heap.size + 1) 31 #[.string ⟨#[]⟩, .bool false, .int .i64 0, .int .i64 0, .slice none 0 0] := by
    rw [hw0]
    have := Blk.new (w.alloc (.cells #[.string t, .bool m, .int .i64 u, .int .i64 d, .slice A bs.length cap] 31)) 31 #[.string ⟨#[]⟩, .bool false, .int .i64 0, .int .i64 0, .slice none 0 0]
    simpa using this
  have HB0 := Lib.hid hB0
  have HL1 := Lib.hid hl1
  have HL2 := Lib.hid hl2
  clear hrow hK hb0 hB0 hl1 hl2
  go_enter Tryz.func63, Tryz.ntmps63
  go_wp2
  rw [← hw0]
  clear hw0
  go_loopw [3, 4] (fun v3 v4 wr => ∃ (k : Nat) (css : List (List Value)), k ≤ bs.length ∧ v4 = .int .i64 k ∧ RowGo 7 bxP w0.heap.size 83 wr v3 (bs.take k) css ∧ Below w0.heap.size w0 wr) (fun _ v4 _ => bs.length - (intOf v4).toNat)
  case atStart => exact ⟨0, [], Nat.zero_le _, rfl, RowGo.nil _ _ _, Below.refl _ _⟩
  case round =>
    obtain ⟨k, css, hk, rfl, hgo, hb⟩ := hrel
    have hl1 := HL1.out.below hb HL1.out.lt
    have e4 := hl1.cell 4
    simp only [List.getElem?_toArray, List.getElem?_cons_zero, List.getElem?_cons_succ] at e4
    by_cases hlt : k < bs.length
    · obtain ⟨g, off, rfl, hKg, hr⟩ := HRow.out (by omega)
      have hx := List.getElem?_eq_getElem hlt
      have hbx := hr k _ hx
      generalize bs[k] = x at *
      have hBw : Below w.heap.size w wr := HB0.out.trans (hb.mono (by omega))
      have hbx' : bxR K wr g (off + k * 7) x := hbx.stay hKg (Kept.of_below hBw HK.out) (fun _ h => h)
      obtain ⟨c0, c1, c2, c3, c4, c5, ⟨vn, c6, hns⟩, hs6⟩ := hbx'
      obtain ⟨An, cn, rfl⟩ : ∃ A c, vn = .slice A x.n.length c := by
        obtain ⟨A, c, e, _⟩ := hns
        exact ⟨A, c, e⟩
      have hlk : (bs.take k).length = k := by rw [List.length_take]; omega
      have hown := hgo.2.1
      rw [hlk] at hown
      obtain ⟨A3, c3', rfl, _, _⟩ := own_form2 hown
      -- the worlds of the round
      have hbb : Below wr.heap.size wr (wr.alloc (.cells #[.int .i64 x.kind, .int .i64 x.width, .int .i64 x.font, .int .i64 x.size, .string x.name, .string x.colour, .slice An x.n.length cn] 83)) := (Below.refl _ _).alloc (Nat.le_refl _) _
      have hbd : Below wr.heap.size wr (wr.alloc (.cells #[.int .i64 x.kind, .int .i64 x.width, .int .i64 x.font, .int .i64 x.size, .string x.name, .string x.colour, .slice An x.n.length cn] 83)) := hbb
      obtain ⟨A', c', w3, qrun, hns3, hb3, _, _⟩ := runN (wr.alloc (.cells #[.int .i64 x.kind, .int .i64 x.width, .int .i64 x.font, .int .i64 x.size, .string x.name, .string x.colour, .slice An x.n.length cn] 83)) 81 An x.n.length cn x.n (hns.stay (Kept.of_all hbd) (fun _ h => h)) hs6
      have hs1 : (wr.alloc (.cells #[.int .i64 x.kind, .int .i64 x.width, .int .i64 x.font, .int .i64 x.size, .string x.name, .string x.colour, .slice An x.n.length cn] 83)).heap.size = wr.heap.size + 1 := by simp
      rw [hs1] at qrun
      have hs4 : (w3.setCell ⟨wr.heap.size, 6, none⟩ (.slice A' x.n.length c')).heap.size = w3.heap.size := by simp [World.setCell]
      have hbx3 : Blk w3 wr.heap.size 83 #[.int .i64 x.kind, .int .i64 x.width, .int .i64 x.font, .int .i64 x.size, .string x.name, .string x.colour, .slice An x.n.length cn] := (Blk.new wr _ _).below hb3 (by omega)
      have g6 := hbx3.cell 6
      have f6 := hbx3.frozen 6
      have hbx4 := blk_set hbx3 (o := 6) (.slice A' x.n.length c')
      have g0 := hbx4.cell 0
      have g1 := hbx4.cell 1
      have g2 := hbx4.cell 2
      have g3 := hbx4.cell 3
      have g4 := hbx4.cell 4
      have g5 := hbx4.cell 5
      have g6' := hbx4.cell 6
      simp only [List.setIfInBounds_toArray, List.set_cons_succ, List.set_cons_zero, List.getElem?_toArray, List.getElem?_cons_zero, List.getElem?_cons_succ] at g0 g1 g2 g3 g4 g5 g6 g6'
      have hb4 : Below wr.heap.size wr (w3.setCell ⟨wr.heap.size, 6, none⟩ (.slice A' x.n.length c')) := (hbd.trans (hb3.mono (by omega))).trans ((turn_set w3 wr.heap.size 6 (.slice A' x.n.length c')).below (Below.refl _ _) (by have := hb3.size; omega) (fun i e => by rw [e]; exact Nat.le_refl _))
      have hb5 := hb4.alloc hb4.size (.cells #[.int .i64 x.kind, .int .i64 x.width, .int .i64 x.font, .int .i64 x.size, .string x.name, .string x.colour, .slice A' x.n.length c'] 83)
      have hn5 := Blk.new (w3.setCell ⟨wr.heap.size, 6, none⟩ (.slice A' x.n.length c')) 83 #[.int .i64 x.kind, .int .i64 x.width, .int .i64 x.font, .int .i64 x.size, .string x.name, .string x.colour, .slice A' x.n.length c']
      rw [hs4] at hn5
      have HO5 := Lib.hid (own_turn (S := fun _ => False) hown (Turn.of_below hb5) (fun _ _ => id))
      have hg5 := RowGo.below (P := bxP) (fun h a b => h.stay a b) hgo hb5
      have hxP : bxP (fun i => w0.heap.size ≤ i ∧ i < ((w3.setCell ⟨wr.heap.size, 6, none⟩ (.slice A' x.n.length c')).alloc (.cells #[.int .i64 x.kind, .int .i64 x.width, .int .i64 x.font, .int .i64 x.size, .string x.name, .string x.colour, .slice A' x.n.length c'] 83)).heap.size ∧ (Value.slice A3 k c3').ownBlock ≠ some i)
          ((w3.setCell ⟨wr.heap.size, 6, none⟩ (.slice A' x.n.length c')).alloc (.cells #[.int .i64 x.kind, .int .i64 x.width, .int .i64 x.font, .int .i64 x.size, .string x.name, .string x.colour, .slice A' x.n.length c'] 83)) [.int .i64 x.kind, .int .i64 x.width, .int .i64 x.font, .int .i64 x.size, .string x.name, .string x.colour, .slice A' x.n.length c'] x :=
        ⟨_, rfl, hns3.stay (Kept.of_turn ((turn_set w3 wr.heap.size 6 (.slice A' x.n.length c')).trans (S2 := fun _ => False) (Turn.of_below ((Below.refl _ _).alloc (Nat.le_refl _) _)) (fun _ _ h => h.elim)) (fun i hi e => by have := hi.1; omega)) (fun i hi => ⟨by have := hb.size; have := hi.1; omega, by have := hi.2; simp; have := (turn_set w3 wr.heap.size 6 (.slice A' x.n.length c')).size; omega, fun e => by have := (hown.lt i e).2; have := hi.1; omega⟩), hs6⟩
      have HStep := Lib.hid (fun (w6 : World) (v1 : Value) hg hown1 hat => RowGo.step (P := bxP) (w2 := w6) (v1 := v1) (fun h a b => h.stay a b) hg5 (x := x) hg rfl hxP hown1 hat)
      have htk : bs.take (k + 1) = bs.take k ++ [x] := by
        obtain ⟨hk2, e2⟩ := List.getElem?_eq_some_iff.1 hx
        rw [List.take_succ_eq_append_getElem hk2, e2]
      have HTk := Lib.hid htk
      have HLk := Lib.hid hlk
      clear hgo hg5 hxP htk hlk hns hns3 hbx3 hbx4 hown hbb hbd hx hbx hr hb3
      go_wp2_with (first
        | (at_builtin
           refine wpList_append_run _ rfl (.tmp 18) (.tmp 20) _ rfl _ _ rfl rfl _ _ qrun ?_
           clear qrun)
        | (at_builtin
           refine wpList_append_own_at _ rfl (.tmp 23) (.tmp 25) _ rfl w0.heap.size 83 i0 _ 7 88 Tryz.underlying29 hi0 hz0 hz1 hz2 rfl (by omega) (.slice A3 k c3') k _ rfl HO5.out ⟨w3.heap.size, 0, none⟩ 1 1 [.int .i64 x.kind, .int .i64 x.width, .int .i64 x.font, .int .i64 x.size, .string x.name, .string x.colour, .slice A' x.n.length c'] rfl
             rfl (cells_new hn5) (by intro u hu; simp only [List.mem_cons, List.not_mem_nil, or_false] at hu; rcases hu with rfl | rfl | rfl | rfl | rfl | rfl | rfl <;> rfl) (by unfold maxLen; omega) (by omega) (by have := hb.size; have := hb5.size; omega) ?_
           intro v1 w6 hown1 hg1 _ hat1))
      go_roundw
      case rel =>
        refine ⟨k + 1, css ++ [[.int .i64 x.kind, .int .i64 x.width, .int .i64 x.font, .int .i64 x.size, .string x.name, .string x.colour, .slice A' x.n.length c']], by omega, by go_num, ?_, (hb.trans (hb5.mono hb.size)).grown hg1 (by have := hb.size; have := hb5.size; omega) (fun q hq => own_ge HO5.out hq)⟩
        rw [HTk.out]
        exact HStep.out w6 v1 hg1 (by rw [HLk.out]; exact hown1) hat1
      case measure => simp [intOf]; omega
    · have e : k = bs.length := by omega
      subst e
      rw [List.take_length] at hgo
      obtain ⟨A3, c3', rfl, _, _⟩ := own_form2 hgo.2.1
      have f4 := hl1.frozen 4
      have hl1' := blk_set hl1 (o := 4) (.slice A3 bs.length c3')
      have g0 := hl1'.cell 0
      have g1 := hl1'.cell 1
      have g2 := hl1'.cell 2
      have g3 := hl1'.cell 3
      have g4 := hl1'.cell 4
      simp only [List.setIfInBounds_toArray, List.set_cons_succ, List.set_cons_zero, List.getElem?_toArray, List.getElem?_cons_zero, List.getElem?_cons_succ] at g0 g1 g2 g3 g4
      have hr0 : Blk (wr.setCell ⟨w.heap.size, 4, none⟩ (.slice A3 bs.length c3')) (w.heap.size + 1) 31 #[.string ⟨#[]⟩, .bool false, .int .i64 0, .int .i64 0, .slice none 0 0] := (HL2.out.below hb HL2.out.lt).far (by simp) _
      have rc0 := hr0.cell 0
      have rf0 := hr0.frozen 0
      have hr1 := blk_set hr0 (o := 0) (.string t)
      have rc1 := hr1.cell 1
      have rf1 := hr1.frozen 1
      have hr2 := blk_set hr1 (o := 1) (.bool m)
      have rc2 := hr2.cell 2
      have rf2 := hr2.frozen 2
      have hr3 := blk_set hr2 (o := 2) (.int .i64 u)
      have rc3 := hr3.cell 3
      have rf3 := hr3.frozen 3
      have hr4 := blk_set hr3 (o := 3) (.int .i64 d)
      have rc4 := hr4.cell 4
      have rf4 := hr4.frozen 4
      have hr5 := blk_set hr4 (o := 4) (.slice A3 bs.length c3')
      have re0 := hr5.cell 0
      have re1 := hr5.cell 1
      have re2 := hr5.cell 2
      have re3 := hr5.cell 3
      have re4 := hr5.cell 4
      simp only [List.setIfInBounds_toArray, List.set_cons_succ, List.set_cons_zero, List.getElem?_toArray, List.getElem?_cons_zero, List.getElem?_cons_succ] at rc0 rc1 rc2 rc3 rc4 re0 re1 re2 re3 re4
      have hr6 : Blk ((((((wr.setCell ⟨w.heap.size, 4, none⟩ (.slice A3 bs.length c3')).setCell ⟨w.heap.size + 1, 0, none⟩ (.string t)).setCell ⟨w.heap.size + 1, 1, none⟩ (.bool m)).setCell ⟨w.heap.size + 1, 2, none⟩ (.int .i64 u)).setCell ⟨w.heap.size + 1, 3, none⟩ (.int .i64 d)).setCell ⟨w.heap.size + 1, 4, none⟩ (.slice A3 bs.length c3')) (w.heap.size + 1) 31 #[.string t, .bool m, .int .i64 u, .int .i64 d, .slice A3 bs.length c3'] := by
        simpa only [List.setIfInBounds_toArray, List.set_cons_succ, List.set_cons_zero] using hr5
      have hT6 : Turn (fun i => i = w.heap.size ∨ i = w.heap.size + 1) wr ((((((wr.setCell ⟨w.heap.size, 4, none⟩ (.slice A3 bs.length c3')).setCell ⟨w.heap.size + 1, 0, none⟩ (.string t)).setCell ⟨w.heap.size + 1, 1, none⟩ (.bool m)).setCell ⟨w.heap.size + 1, 2, none⟩ (.int .i64 u)).setCell ⟨w.heap.size + 1, 3, none⟩ (.int .i64 d)).setCell ⟨w.heap.size + 1, 4, none⟩ (.slice A3 bs.length c3')) :=
        ((((((turn_set wr w.heap.size 4 (.slice A3 bs.length c3')).mono (fun i e => .inl e)).trans (turn_set _ (w.heap.size + 1) 0 _) (fun i _ e => .inr e)).trans (turn_set _ (w.heap.size + 1) 1 _) (fun i _ e => .inr e)).trans (turn_set _ (w.heap.size + 1) 2 _) (fun i _ e => .inr e)).trans (turn_set _ (w.heap.size + 1) 3 _) (fun i _ e => .inr e)).trans (turn_set _ (w.heap.size + 1) 4 _) (fun i _ e => .inr e)
      have hrow := (RowGo.row (P := bxP) (R := bxR) (fun h hc => h.r hc) (fun h hK => h.on hK) hgo)
      have hrow6 : BxsAt (fun k => w.heap.size ≤ k ∧ k < ((((((wr.setCell ⟨w.heap.size, 4, none⟩ (.slice A3 bs.length c3')).setCell ⟨w.heap.size + 1, 0, none⟩ (.string t)).setCell ⟨w.heap.size + 1, 1, none⟩ (.bool m)).setCell ⟨w.heap.size + 1, 2, none⟩ (.int .i64 u)).setCell ⟨w.heap.size + 1, 3, none⟩ (.int .i64 d)).setCell ⟨w.heap.size + 1, 4, none⟩ (.slice A3 bs.length c3')).heap.size) ((((((wr.setCell ⟨w.heap.size, 4, none⟩ (.slice A3 bs.length c3')).setCell ⟨w.heap.size + 1, 0, none⟩ (.string t)).setCell ⟨w.heap.size + 1, 1, none⟩ (.bool m)).setCell ⟨w.heap.size + 1, 2, none⟩ (.int .i64 u)).setCell ⟨w.heap.size + 1, 3, none⟩ (.int .i64 d)).setCell ⟨w.heap.size + 1, 4, none⟩ (.slice A3 bs.length c3')) (.slice A3 bs.length c3') bs := BxsAt.stay hrow (Kept.of_turn hT6 (fun i hi e => by have := hi.1; omega)) (fun i hi => ⟨by have := hi.1; omega, Nat.lt_of_lt_of_le hi.2 hT6.size⟩)
      have hB6 : Below w.heap.size w ((((((wr.setCell ⟨w.heap.size, 4, none⟩ (.slice A3 bs.length c3')).setCell ⟨w.heap.size + 1, 0, none⟩ (.string t)).setCell ⟨w.heap.size + 1, 1, none⟩ (.bool m)).setCell ⟨w.heap.size + 1, 2, none⟩ (.int .i64 u)).setCell ⟨w.heap.size + 1, 3, none⟩ (.int .i64 d)).setCell ⟨w.heap.size + 1, 4, none⟩ (.slice A3 bs.length c3')) := hT6.below (HB0.out.trans (hb.mono (by omega))) (by have := hb.size; omega) (fun i e => by omega)
      have HR6 := Lib.hid hr6
      have HRow6 := Lib.hid hrow6
      have HB6 := Lib.hid hB6
      clear hgo hr0 hr1 hr2 hr3 hr4 hr5 hr6 hT6 hrow hrow6 hB6
      go_wp2
      refine bodyPost_ret (results_cell_row rfl _ _ (w.heap.size + 1) 31 _ (0, 0) _ rfl HR6.out Tryz.underlying31 rfl (by kernel_rfl)) rfl ?_
      exact ⟨_, rfl, HRow6.out, HB6.out⟩
end
end Go.Proofs.YtpgkhhchpojlaaaGreatDoor
namespace Go.Proofs.YtpgkhhchpojlaaaGreatDoor
open Go.RowKit Go.Maps Go.WideMaps

section
variable {K : Nat → Prop} {w w' : World}
set_option maxRecDepth 100000 in
set_option maxHeartbeats 2000000 in
/-- OwnAll. -/
theorem nOwnAll (v : Value) (ls : List Ln) (h : LnsAt K w v ls) (hK : ∀ k, K k → k < w.heap.size) (hz : ls.length ≤ 1000000000000) :
    Calls Tryz.prog 44 #[v] w fun e w' => ∃ v', e = .returned v' ∧ LnsAt (fun k => w.heap.size ≤ k ∧ k < w'.heap.size) w' v' ls ∧ Below w.heap.size w w' := by
  obtain ⟨i0, hi0, hz0, hz1, hz2⟩ := info_parts line_info
  obtain ⟨A, cap, rfl, hn, hm, hrow⟩ := h
  have HRow := Lib.hid hrow
  have HK := Lib.hid hK
  clear hrow hK
  go_enter Tryz.func44, Tryz.ntmps44
  go_wp2
  go_loopw [3, 4] (fun v3 v4 wr => ∃ (k : Nat) (css : List (List Value)), k ≤ ls.length ∧ v4 = .int .i64 k ∧ RowGo 5 lnP w.heap.size 31 wr v3 (ls.take k) css ∧ Below w.heap.size w wr) (fun _ v4 _ => ls.length - (intOf v4).toNat)
  case atStart => exact ⟨0, [], Nat.zero_le _, rfl, RowGo.nil _ _ _, Below.refl _ _⟩
  case round =>
    obtain ⟨k, css, hk, rfl, hgo, hb⟩ := hrel
    by_cases hlt : k < ls.length
    · obtain ⟨g, off, rfl, hKg, hr⟩ := HRow.out (by omega)
      have hx := List.getElem?_eq_getElem hlt
      have hlx := hr k _ hx
      generalize ls[k] = x at *
      have hlx' : lnR K wr g (off + k * 5) x := hlx.stay hKg (Kept.of_below hb HK.out) (fun _ h => h)
      obtain ⟨c0, c1, c2, c3, ⟨vb, c4, hbs⟩, hs0, hs4⟩ := hlx'
      have HOwn := Lib.hid (nOwn x.text x.made x.up x.down vb x.boxes hbs (fun i hi => Nat.lt_of_lt_of_le (HK.out i hi) hb.size) hs4)
      obtain ⟨Ab, nb, cb, rfl⟩ : ∃ A n c, vb = .slice A n c := by
        obtain ⟨A, c, e, _⟩ := hbs
        exact ⟨A, _, c, e⟩
      have hlk : (ls.take k).length = k := by rw [List.length_take]; omega
      have hown := hgo.2.1
      rw [hlk] at hown
      obtain ⟨A3, c3', rfl, _, _⟩ := own_form2 hown
      have htk : ls.take (k + 1) = ls.take k ++ [x] := by
        obtain ⟨hk2, e2⟩ := List.getElem?_eq_some_iff.1 hx
        rw [List.take_succ_eq_append_getElem hk2, e2]
      have HSt : Hid (∀ (w1 : World) (v' : Value), Below wr.heap.size wr w1 → BxsAt (fun k => wr.heap.size ≤ k ∧ k < w1.heap.size) w1 v' x.boxes → (w1.alloc (.cells #[.string x.text, .bool x.made, .int .i64 x.up, .int .i64 x.down, v'] 31)).ownsRow w.heap.size 31 5 (.slice A3 k c3') k css.flatten ∧
          ∀ (w6 : World) (v1 : Value), (w1.alloc (.cells #[.string x.text, .bool x.made, .int .i64 x.up, .int .i64 x.down, v'] 31)).grownBy w6 (Value.slice A3 k c3').ownBlock → w6.ownsRow w.heap.size 31 5 v1 (k + 1) (css.flatten ++ [.string x.text, .bool x.made, .int .i64 x.up, .int .i64 x.down, v']) → (v1.ownBlock = (Value.slice A3 k c3').ownBlock ∨ v1.ownBlock = some (w1.alloc (.cells #[.string x.text, .bool x.made, .int .i64 x.up, .int .i64 x.down, v'] 31)).heap.size) →
          RowGo 5 lnP w.heap.size 31 w6 v1 (ls.take (k + 1)) (css ++ [[.string x.text, .bool x.made, .int .i64 x.up, .int .i64 x.down, v']]) ∧ Below w.heap.size w w6) := Lib.hid (fun w1 v' hb1 hv' => by
        have hb5 := hb1.alloc hb1.size (.cells #[.string x.text, .bool x.made, .int .i64 x.up, .int .i64 x.down, v'] 31)
        have ho5 := own_turn (S := fun _ => False) hown (Turn.of_below hb5) (fun _ _ => id)
        refine ⟨ho5, fun w6 v1 hg hown1 hat => ⟨?_, (hb.trans (hb5.mono hb.size)).grown hg (by have := hb.size; have := hb5.size; omega) (fun q hq => own_ge ho5 hq)⟩⟩
        have hg5 := RowGo.below (P := lnP) (fun h a b => h.stay a b) hgo hb5
        rw [htk]
        refine RowGo.step (P := lnP) (fun h a b => h.stay a b) hg5 (x := x) hg rfl ⟨v', rfl, hv'.stay (Kept.of_all ((Below.refl _ _).alloc (Nat.le_refl _) _)) (fun i hi => ⟨by have := hb.size; have := hi.1; omega, by have := hi.2; simp; omega, fun e => by have := (hown.lt i e).2; have := hi.1; omega⟩), hs0, hs4⟩ (by rw [hlk]; exact hown1) hat)
      clear hgo hlk htk hown hbs hlx hr hx
      go_wp2_with (first
        | (go_at_call 63; refine HOwn.out.mono ?_; rintro e w1 ⟨v', rfl, hv', hb1⟩; obtain ⟨Av, nv, cv, rfl⟩ : ∃ A n c, v' = .slice A n c := (by obtain ⟨A, c, e, _⟩ := hv'; exact ⟨A, _, c, e⟩); obtain ⟨HO5, hstep⟩ := HSt.out w1 _ hb1 hv'; have HStep := Lib.hid hstep; have HO := Lib.hid HO5; have hn5 := Lib.hid (Blk.new w1 31 #[.string x.text, .bool x.made, .int .i64 x.up, .int .i64 x.down, .slice Av nv cv]); clear hstep HO5 hv')
        | (at_builtin
           refine wpList_append_own_at _ rfl (.tmp 11) (.tmp 17) _ rfl w.heap.size 31 i0 _ 5 64 Tryz.underlying35 hi0 hz0 hz1 hz2 rfl (by omega) (.slice A3 k c3') k _ rfl HO.out ⟨w1.heap.size, 0, none⟩ 1 1 [.string x.text, .bool x.made, .int .i64 x.up, .int .i64 x.down, .slice Av nv cv] rfl
             rfl (cells_new hn5.out) (by intro u hu; simp only [List.mem_cons, List.not_mem_nil, or_false] at hu; rcases hu with rfl | rfl | rfl | rfl | rfl <;> rfl) (by unfold maxLen; omega) (by omega) (by have := hb.size; have := hb1.size; simp; omega) ?_
           intro v1 w6 hown1 hg1 _ hat1))
      go_roundw
      case rel =>
        obtain ⟨q1, q2⟩ := HStep.out w6 v1 hg1 hown1 hat1
        exact ⟨k + 1, _, by omega, by go_num, q1, q2⟩
      case measure => simp [intOf]; omega
    · have e : k = ls.length := by omega
      subst e
      rw [List.take_length] at hgo
      have hrow := (RowGo.row (P := lnP) (R := lnR) (fun h hc => h.r hc) (fun h hK => h.on hK) hgo)
      have HR := Lib.hid hrow
      clear hgo hrow
      go_wp2
      go_ret
      exact ⟨_, rfl, HR.out, hb⟩
end
end Go.Proofs.YtpgkhhchpojlaaaGreatDoor
