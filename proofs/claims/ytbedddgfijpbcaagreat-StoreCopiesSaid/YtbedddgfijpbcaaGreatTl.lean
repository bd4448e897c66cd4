/- Walk: the statement on deeds. -/
import Derived.Test.YtbedddgfijpbcaaGreatTj
import Derived.Test.YtbedddgfijpbcaaGreatTk
import Derived.Deep.RegionHeld3
namespace Go.Proofs.YtbedddgfijpbcaaGreat
open Go.RowKit Go.Maps Go.WideMaps

theorem ddR.keep {K K' : Nat → Prop} {w w' : World} {g o : Nat} {d : Dd} (ha : K g) (h : ddR K w g o d) (hw : Kept K w w') (hK : ∀ i, K i → K' i) : ddR K' w' g o d := by
  obtain ⟨v, hv, hn⟩ := h.c4
  exact ⟨hw.cell ha h.c0, hw.cell ha h.c1, hw.cell ha h.c2, hw.cell ha h.c3, ⟨v, hw.cell ha hv, hn.stay hw hK⟩, hw.cell ha h.c5, hw.cell ha h.c6, h.z1, h.z2, h.z3, h.z4, h.wa, h.wb, h.ww⟩
/-- New, of the document's store. -/
theorem nNew (w : World) : Calls Tryz.prog 8 #[] w fun e w' => e = .returned (.pointer (some ⟨w.heap.size, 0, none⟩)) ∧ w' = w.alloc (.cells #[.bool true, .slice none 0 0, .slice none 0 0] 50) := by
  go_enter Tryz.func8, Tryz.ntmps8
  go_wp2_with fail
  go_ret
  exact ⟨rfl, rfl⟩
set_option maxRecDepth 100000 in
set_option maxHeartbeats 2000000 in
/-- StorePlays. -/
theorem lPlays (v : Value) (ds : List Dd) (w : World) (h : DdsAt (fun k => k < w.heap.size) w v ds) :
    Calls Tryz.prog 3 #[v] w fun e w' => e = .returned (.bool true) ∧ Below w.heap.size w w' := by
  have HBig := Lib.hid (lBig2 v ds w h)
  have HS := Lib.hid (fun w => lSane w)
  obtain ⟨A, cap, rfl, a1, a2, a3⟩ := h
  have HA := Lib.hid a3
  clear a3
  unfold maxLen at a2
  have H1 := Lib.hid (fun (w1 : World) (hb : Below w.heap.size w w1) => sNew (b := w.heap.size) (w0 := w) (w := w1) E0 hb hb.size)
  go_enter Tryz.func3, Tryz.ntmps3
  go_wp2_with (first
    | (go_at_call 5; refine HBig.out.mono ?_; rintro e w1 ⟨⟨b, rfl, hfew⟩, hb1⟩; have HF := Lib.hid hfew; clear hfew)
    | (go_at_call 6; refine (HS.out _).mono ?_; rintro e w2 ⟨rfl, hb2⟩)
    | (go_at_call 7; refine (H1.out _ hb1).mono ?_; rintro e w2 ⟨g, bm, rfl, hk1⟩; have K1 := Lib.hid (both_new hk1); clear hk1)
    | (go_at_call 8; refine (nNew _).mono ?_; rintro e w3 ⟨rfl, hw3⟩; have K2 := K1; rw [← hw3] at K2; clear K1 hw3))
  · go_ret
    exact ⟨rfl, ntrans hb1 hb2⟩
  · have hbf : b = false := by first | assumption | simp_all
    obtain ⟨hd1, hd2⟩ := HF.out hbf
    have HD2 := Lib.hid hd2
    subst hbf
    clear HBig H1 HF hd2
    generalize w2.heap.size = x at K2 ⊢
    go_loopw [5] (fun v5 wr => ∃ i : Nat, i ≤ ds.length ∧ v5 = .int .i64 i ∧ Both w.heap.size w wr g bm x i) (fun v5 _ => ds.length - (intOf v5).toNat)
    case atStart => exact ⟨0, Nat.zero_le _, rfl, K2.out⟩
    case round =>
      clear K2
      obtain ⟨i, hi, rfl, hk⟩ := hrel
      have HB := Lib.hid hk.out.1
      have KK := Lib.hid hk
      clear hk
      by_cases hlt : i < ds.length
      · obtain ⟨p, off, rfl, hKp, hr⟩ := HA.out (by omega)
        have hx : ds[i]? = some ds[i] := List.getElem?_eq_getElem hlt
        have hli := HD2.out ds[i] (List.getElem_mem hlt)
        have q0 := hr i _ hx
        obtain ⟨vl, c4, hls⟩ := q0.c4
        obtain ⟨Al, nl, cl, rfl⟩ : ∃ A n c, vl = .slice A n c := by
          obtain ⟨A, c, e, _⟩ := hls
          exact ⟨A, _, c, e⟩
        have HCell : Hid (∀ w' : World, Below w.heap.size w w' → w'.cell? ⟨p, off + i * 7, none⟩ = some (.int .i64 ds[i].what) ∧ w'.cell? ⟨p, off + i * 7 + 1, none⟩ = some (.string ds[i].name) ∧ w'.cell? ⟨p, off + i * 7 + 2, none⟩ = some (.string ds[i].other) ∧ w'.cell? ⟨p, off + i * 7 + 3, none⟩ = some (.string ds[i].text) ∧ w'.cell? ⟨p, off + i * 7 + 4, none⟩ = some (.slice Al nl cl) ∧
            w'.cell? ⟨p, off + i * 7 + 5, none⟩ = some (.int .i64 ds[i].a) ∧ w'.cell? ⟨p, off + i * 7 + 6, none⟩ = some (.int .i64 ds[i].b)) := Lib.hid (fun w' hb => by
          have k := fun {o : Nat} {v : Value} (hc : w.cell? ⟨p, o, none⟩ = some v) => (hb.cell (p := ⟨p, o, none⟩) (cell_lt hc)).trans hc
          exact ⟨k q0.c0, k q0.c1, k q0.c2, k q0.c3, k c4, k q0.c5, k q0.c6⟩)
        have HQ := Lib.hid (⟨q0.z1, q0.z2, q0.z3, q0.z4, q0.wa, q0.wb⟩ : ds[i].name.size ≤ 140737488351232 ∧ ds[i].other.size ≤ 140737488351232 ∧ ds[i].text.size ≤ 140737488351232 ∧ ds[i].lines.length ≤ 10000000000000 ∧ (-9223372036854775808 ≤ ds[i].a ∧ ds[i].a ≤ 9223372036854775807) ∧ (-9223372036854775808 ≤ ds[i].b ∧ ds[i].b ≤ 9223372036854775807))
        have HLs := Lib.hid hls
        have HLi := Lib.hid hli
        clear q0 hr hx hls hli c4
        generalize ds[i] = d at *
        have HDo : Hid (∀ (w5 : World), Both w.heap.size w w5 g bm x i → Calls Tryz.prog 9 #[.pointer (some ⟨g, 0, none⟩), .agg #[.int .i64 d.what, .string d.name, .string d.other, .string d.text, .slice Al nl cl, .int .i64 d.a, .int .i64 d.b]] w5 fun r w' => ∃ k, r = .returned (.int .i64 k) ∧ Midw w.heap.size w w' g bm x i d k) := Lib.hid (fun w5 h5 =>
          bDo d (fun k => k < w.heap.size) (.slice Al nl cl) (HLs.out.stay (Kept.of_below h5.out.1 (fun _ h => h)) (fun _ h => h)) (fun k hk => Nat.lt_of_lt_of_le hk h5.out.2) HQ.out.1 HQ.out.2.1 HQ.out.2.2.1 HQ.out.2.2.2.1 HQ.out.2.2.2.2.1 HQ.out.2.2.2.2.2 h5)
        have HTd : Hid (∀ (k : Int) (w5 : World), Midw w.heap.size w w5 g bm x i d k → Calls Tryz.prog 10 #[.pointer (some ⟨x, 0, none⟩), .agg #[.int .i64 d.what, .string d.name, .string d.other, .string d.text, .slice Al nl cl, .int .i64 d.a, .int .i64 d.b]] w5 fun r w' => r = .returned (.int .i64 k) ∧ Both w.heap.size w w' g bm x (i + 1)) := Lib.hid (fun k w5 h5 =>
          bTold d k (fun k => k < w.heap.size) (.slice Al nl cl) (HLs.out.stay (Kept.of_below h5.out.1 (fun _ h => h)) (fun _ h => h)) (fun k hk => Nat.lt_of_lt_of_le hk h5.out.2) HQ.out.1 HQ.out.2.1 HQ.out.2.2.1 HLi.out HQ.out.2.2.2.2.1 HQ.out.2.2.2.2.2 (by omega) h5)
        have HAl : Hid (∀ (w5 : World), Both w.heap.size w w5 g bm x (i + 1) → Calls Tryz.prog 11 #[.pointer (some ⟨g, 0, none⟩), .pointer (some ⟨x, 0, none⟩), .string d.name] w5 fun r w' => r = .returned (.bool true) ∧ Both w.heap.size w w' g bm x (i + 1)) := Lib.hid (fun w5 h5 =>
          bothAlike d.name (by have := HQ.out.1; unfold maxLen; omega) h5)
        have HKd := Lib.hid (KK.out.below ((Below.refl _ _).drew))
        go_wp2_with fail
        go_region_held3 (fun w' => w'.cell? ⟨p, off + i * 7, none⟩ = some (.int .i64 d.what) ∧ w'.cell? ⟨p, off + i * 7 + 1, none⟩ = some (.string d.name) ∧ w'.cell? ⟨p, off + i * 7 + 2, none⟩ = some (.string d.other) ∧ w'.cell? ⟨p, off + i * 7 + 3, none⟩ = some (.string d.text) ∧ w'.cell? ⟨p, off + i * 7 + 4, none⟩ = some (.slice Al nl cl) ∧
            w'.cell? ⟨p, off + i * 7 + 5, none⟩ = some (.int .i64 d.a) ∧ w'.cell? ⟨p, off + i * 7 + 6, none⟩ = some (.int .i64 d.b))
          (first | exact HCell.out _ HB.out | exact HCell.out _ HKd.out.out.1 | exact HCell.out _ K5.out.out.1 | exact HCell.out _ K6.out.out.1 | exact HCell.out _ K7.out.out.1)
          (first
            | (go_at_call 9; refine (HDo.out _ HKd.out).mono ?_; rintro r w5 ⟨kk, rfl, hk5⟩; have K5 := Lib.hid hk5; clear hk5; have hkk : (kk != kk) = false := (by simp))
            | (go_at_call 10; refine (HTd.out _ _ K5.out).mono ?_; rintro r w6 ⟨rfl, hk6⟩; have K6 := Lib.hid hk6; clear hk6)
            | (go_at_call 11; refine (HAl.out _ K6.out).mono ?_; rintro r w7 ⟨rfl, hk7⟩; have K7 := Lib.hid hk7; clear hk7))
        all_goals
          go_wp2_with fail
          go_roundw
          case rel => exact ⟨i + 1, by omega, by go_num, K7.out⟩
          case measure => simp [intOf]; omega
      · go_wp2_with (go_at_call 6; refine (HS.out _).mono ?_; rintro e w7 ⟨rfl, hb7⟩)
        go_ret
        exact ⟨rfl, HB.out.trans (hb7.mono HB.out.size)⟩
end Go.Proofs.YtbedddgfijpbcaaGreat
