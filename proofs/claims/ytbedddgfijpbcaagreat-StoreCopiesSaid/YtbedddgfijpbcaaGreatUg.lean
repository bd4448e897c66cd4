/- Walk: the statement on copies. -/
import Derived.Test.YtbedddgfijpbcaaGreatTl
import Derived.Test.YtbedddgfijpbcaaGreatUb
import Derived.Test.YtbedddgfijpbcaaGreatUa
namespace Go.Proofs.YtbedddgfijpbcaaGreat
open Go.RowKit Go.Maps Go.WideMaps

theorem Sim.iso {L L' M : List Ent} {E E' : Nat → En} {es : List En} (h : Sim L E M es) (hL : Srt L') (hi : Iso L E L' E') : Sim L' E' M es :=
  ⟨hL, h.srtM, fun s => (hi.has s).trans (h.has s), fun s hs => (hi.val s (by rw [← hi.has]; exact hs)).trans (h.val s (by rw [← hi.has]; exact hs)), fun s t hs ht => (hi.same s t (by rw [← hi.has]; exact hs) (by rw [← hi.has]; exact ht)).trans (h.same s t (by rw [← hi.has]; exact hs) (by rw [← hi.has]; exact ht)), h.ats⟩
/-- The code's store is copied, the document's not yet. -/
def CMid (b : Nat) (w0 w : World) (g x n : Nat) : Prop :=
  ∃ bm U F R L E U2 K2 M es, StAt U F R w g bm L E ∧ RSt U2 K2 w x M es ∧ Sim L E M es ∧ es.length ≤ n ∧ Below b w0 w ∧ b ≤ w.heap.size ∧ (∀ i, U i → b ≤ i) ∧ (∀ i, F i → b ≤ i) ∧ b ≤ g
section
variable {b : Nat} {w0 w : World} {g bm x n : Nat}
theorem bCopy1 (h : Both b w0 w g bm x n) : Calls Tryz.prog 12 #[.pointer (some ⟨g, 0, none⟩)] w fun e w' => ∃ g3, e = .returned (.pointer (some ⟨g3, 0, none⟩)) ∧ CMid w.heap.size w w' g3 x n ∧ Below w.heap.size w w' := by
  obtain ⟨U, F, R, L, E, U2, K2, M, es, h1, h2, h3, h4, h5, h6, h7⟩ := h
  refine (cCopy h1).mono ?_
  rintro e w' ⟨g3, bm3, U3, F3, R3, L3, E3, rfl, q1, q2, q3, q4, q5, q6⟩
  exact ⟨g3, rfl, ⟨bm3, U3, F3, R3, L3, E3, U2, K2, M, es, q1, h2.below q6, h3.iso q1.srt q2, h4, q6, q6.size, q3, q4, q5⟩, q6⟩
theorem bCopy2 (hn : n ≤ 1000000) (h : CMid b w0 w g x n) : Calls Tryz.prog 13 #[.pointer (some ⟨x, 0, none⟩)] w fun e w' => ∃ y bm, e = .returned (.pointer (some ⟨y, 0, none⟩)) ∧ Both b w0 w' g bm y n ∧ Below w.heap.size w w' := by
  obtain ⟨bm, U, F, R, L, E, U2, K2, M, es, h1, h2, h3, h4, h5, h6, h7, h8, h9⟩ := h
  refine (nCopy (Nat.le_trans h4 hn) h2).mono ?_
  rintro e w' ⟨y, U4, K4, rfl, q1, q2, q3, q4⟩
  refine ⟨y, bm, rfl, ⟨U, F, R, L, E, U4, K4, M, es, h1.below q4, q1, h3, h4, h5.trans (q4.mono h6), Nat.le_trans h6 q4.size, ⟨fun i hi => ⟨h7 i hi, fun e => ?_, fun e => ?_⟩, fun i hi => ⟨Nat.le_trans h6 (q2 i hi), fun e => ?_, fun e => ?_⟩⟩⟩, q4⟩
  · have := h1.ul i hi; have := q2 i e; omega
  · have := h1.ul i hi; have := q3 i e; omega
  · have := h1.fl i e; have := q2 i hi; omega
  · have := h1.blk.lt; have := q2 i hi; omega
theorem Both.more {m : Nat} (h : Both b w0 w g bm x n) (hm : n ≤ m) : Both b w0 w g bm x m := by
  obtain ⟨U, F, R, L, E, U2, K2, M, es, h1, h2, h3, h4, h5⟩ := h
  exact ⟨U, F, R, L, E, U2, K2, M, es, h1, h2, h3, Nat.le_trans h4 hm, h5⟩
end
set_option maxRecDepth 100000 in
set_option maxHeartbeats 4000000 in
/-- StoreCopies. -/
theorem lCopies (v v2 : Value) (ds es : List Dd) (w : World) (h : DdsAt (fun k => k < w.heap.size) w v ds) (h2 : DdsAt (fun k => k < w.heap.size) w v2 es) :
    Calls Tryz.prog 4 #[v, v2] w fun e w' => e = .returned (.bool true) ∧ Below w.heap.size w w' := by
  have HBig := Lib.hid (lBig2 v ds w h)
  have HBig2 := Lib.hid (fun (w1 : World) (hb : Below w.heap.size w w1) => lBig2 v2 es w1 (RowAt.imp h2 (fun i hi => Nat.lt_of_lt_of_le hi hb.size) (fun _ _ _ _ ha hr => hr.keep ha (Kept.of_below hb (fun _ h => h)) (fun i hi => Nat.lt_of_lt_of_le hi hb.size))))
  have HS := Lib.hid (fun w => lSane w)
  obtain ⟨A, cap, rfl, a1, a2, a3⟩ := h
  have HA := Lib.hid a3
  clear a3
  unfold maxLen at a2
  obtain ⟨A2, cap2, rfl, b1, b2, b3⟩ := h2
  have HB2 := Lib.hid b3
  clear b3
  unfold maxLen at b2
  have H1 := Lib.hid (fun (w1 : World) (hb : Below w.heap.size w w1) => sNew (b := w.heap.size) (w0 := w) (w := w1) E0 hb hb.size)
  go_enter Tryz.func4, Tryz.ntmps4
  go_wp2_with (first
    | (go_at_call_of 5 (Value.slice A ds.length cap); refine HBig.out.mono ?_; rintro e w1 ⟨⟨b, rfl, hfew⟩, hb1⟩; have HF := Lib.hid hfew; clear hfew)
    | (go_at_call_of 5 (Value.slice A2 es.length cap2); refine (HBig2.out _ hb1).mono ?_; rintro e w1' ⟨⟨b', rfl, hfew2⟩, hb1'⟩; have HF2 := Lib.hid hfew2; clear hfew2)
    | (go_at_call 6; refine (HS.out _).mono ?_; rintro e w2 ⟨rfl, hb2⟩)
    | (go_at_call 7; refine (H1.out _ (ntrans hb1 hb1')).mono ?_; rintro e w2 ⟨g, bm, rfl, hk1⟩; have K1 := Lib.hid (both_new hk1); clear hk1)
    | (go_at_call 8; refine (nNew _).mono ?_; rintro e w3 ⟨rfl, hw3⟩; have K2 := K1; rw [← hw3] at K2; clear K1 hw3))
  · go_ret
    exact ⟨rfl, ntrans hb1 hb2⟩
  · go_ret
    exact ⟨rfl, ntrans (ntrans hb1 hb1') hb2⟩
  · have hbf : b = false := by first | assumption | simp_all
    have hbf2 : b' = false := by first | assumption | simp_all
    obtain ⟨hd1, hd2⟩ := HF.out hbf
    obtain ⟨he1, he2⟩ := HF2.out hbf2
    have HD2 := Lib.hid hd2
    have HE2 := Lib.hid he2
    subst hbf hbf2
    clear HBig HBig2 H1 HF HF2 hd2 he2 hb1 hb1'
    generalize w2.heap.size = x at K2 ⊢
    go_loopw [7] (fun v7 wr => ∃ i : Nat, i ≤ ds.length ∧ v7 = .int .i64 i ∧ Both w.heap.size w wr g bm x i) (fun v7 _ => ds.length - (intOf v7).toNat)
    case atStart => exact ⟨0, Nat.zero_le _, rfl, K2.out⟩
    case round =>
      clear K2
      obtain ⟨i, hi, rfl, hk⟩ := hrel
      have HB := Lib.hid hk.out.1
      have KK := Lib.hid hk
      clear hk
      by_cases hlt : i < ds.length
      · obtain ⟨p, off, rfl, hKp, hr⟩ := HA.out (by omega)
        have hx : ds[i]? = some ds[i] := List.getElem?_eq_getElem hlt
        have hli := HD2.out ds[i] (List.getElem_mem hlt)
        have q0 := hr i _ hx
        obtain ⟨vl, c4, hls⟩ := q0.c4
        obtain ⟨Al, nl, cl, rfl⟩ : ∃ A n c, vl = .slice A n c := by
          obtain ⟨A, c, e, _⟩ := hls
          exact ⟨A, _, c, e⟩
        have HCell : Hid (∀ w' : World, Below w.heap.size w w' → w'.cell? ⟨p, off + i * 7, none⟩ = some (.int .i64 ds[i].what) ∧ w'.cell? ⟨p, off + i * 7 + 1, none⟩ = some (.string ds[i].name) ∧ w'.cell? ⟨p, off + i * 7 + 2, none⟩ = some (.string ds[i].other) ∧ w'.cell? ⟨p, off + i * 7 + 3, none⟩ = some (.string ds[i].text) ∧ w'.cell? ⟨p, off + i * 7 + 4, none⟩ = some (.slice Al nl cl) ∧
            w'.cell? ⟨p, off + i * 7 + 5, none⟩ = some (.int .i64 ds[i].a) ∧ w'.cell? ⟨p, off + i * 7 + 6, none⟩ = some (.int .i64 ds[i].b)) := Lib.hid (fun w' hb => by
          have k := fun {o : Nat} {v : Value} (hc : w.cell? ⟨p, o, none⟩ = some v) => (hb.cell (p := ⟨p, o, none⟩) (cell_lt hc)).trans hc
          exact ⟨k q0.c0, k q0.c1, k q0.c2, k q0.c3, k c4, k q0.c5, k q0.c6⟩)
        have HQ := Lib.hid (⟨q0.z1, q0.z2, q0.z3, q0.z4, q0.wa, q0.wb⟩ : ds[i].name.size ≤ 140737488351232 ∧ ds[i].other.size ≤ 140737488351232 ∧ ds[i].text.size ≤ 140737488351232 ∧ ds[i].lines.length ≤ 10000000000000 ∧ (-9223372036854775808 ≤ ds[i].a ∧ ds[i].a ≤ 9223372036854775807) ∧ (-9223372036854775808 ≤ ds[i].b ∧ ds[i].b ≤ 9223372036854775807))
        have HLs := Lib.hid hls
        have HLi := Lib.hid hli
        clear q0 hr hx hls hli c4
        generalize ds[i] = d at *
        have HDo : Hid (∀ (w5 : World), Both w.heap.size w w5 g bm x i → Calls Tryz.prog 9 #[.pointer (some ⟨g, 0, none⟩), .agg #[.int .i64 d.what, .string d.name, .string d.other, .string d.text, .slice Al nl cl, .int .i64 d.a, .int .i64 d.b]] w5 fun r w' => ∃ k, r = .returned (.int .i64 k) ∧ Midw w.heap.size w w' g bm x i d k) := Lib.hid (fun w5 h5 =>
          bDo d (fun k => k < w.heap.size) (.slice Al nl cl) (HLs.out.stay (Kept.of_below h5.out.1 (fun _ h => h)) (fun _ h => h)) (fun k hk => Nat.lt_of_lt_of_le hk h5.out.2) HQ.out.1 HQ.out.2.1 HQ.out.2.2.1 HQ.out.2.2.2.1 HQ.out.2.2.2.2.1 HQ.out.2.2.2.2.2 h5)
        have HTd : Hid (∀ (k : Int) (w5 : World), Midw w.heap.size w w5 g bm x i d k → Calls Tryz.prog 10 #[.pointer (some ⟨x, 0, none⟩), .agg #[.int .i64 d.what, .string d.name, .string d.other, .string d.text, .slice Al nl cl, .int .i64 d.a, .int .i64 d.b]] w5 fun r w' => r = .returned (.int .i64 k) ∧ Both w.heap.size w w' g bm x (i + 1)) := Lib.hid (fun k w5 h5 =>
          bTold d k (fun k => k < w.heap.size) (.slice Al nl cl) (HLs.out.stay (Kept.of_below h5.out.1 (fun _ h => h)) (fun _ h => h)) (fun k hk => Nat.lt_of_lt_of_le hk h5.out.2) HQ.out.1 HQ.out.2.1 HQ.out.2.2.1 HLi.out HQ.out.2.2.2.2.1 HQ.out.2.2.2.2.2 (by omega) h5)
        obtain ⟨e0, e1, e2, e3, e4, e5, e6⟩ := HCell.out _ HB.out
        go_wp2_with (first
          | (go_at_call 9; refine (HDo.out _ KK.out).mono ?_; rintro r w5 ⟨kk, rfl, hk5⟩; obtain ⟨f0, f1, f2, f3, f4, f5, f6⟩ := HCell.out _ hk5.out.1; have K5 := Lib.hid hk5; clear hk5)
          | (go_at_call 10; refine (HTd.out _ _ K5.out).mono ?_; rintro r w6 ⟨rfl, hk6⟩; have K6 := Lib.hid hk6; clear hk6))
        go_roundw
        case rel => exact ⟨i + 1, by omega, by go_num, K6.out⟩
        case measure => simp [intOf]; omega
      · clear HD2 HA
        have hbs := HB.out.size
        have hC1 := bCopy1 KK.out
        have HC1 := Lib.hid hC1
        clear hC1
        go_wp2_with (first
          | (go_at_call 12; refine HC1.out.mono ?_; rintro r w5 ⟨g3, rfl, hm, hb5⟩; have HM := Lib.hid hm; have HB5 := Lib.hid hb5; clear hm hb5)
          | (go_at_call 13; refine (bCopy2 (by omega) HM.out).mono ?_; rintro r w6 ⟨y, bm3, rfl, hk6, hb6⟩; have K6 := Lib.hid hk6; clear hk6 hb6))
        clear HC1 HM HB5
        generalize wr = wc at *
        go_loopw [10] (fun v10 ws => ∃ k : Nat, k ≤ es.length ∧ v10 = .int .i64 k ∧ Both wc.heap.size wc ws g3 bm3 y (i + k)) (fun v10 _ => es.length - (intOf v10).toNat)
        case atStart => exact ⟨0, Nat.zero_le _, rfl, K6.out⟩
        case round =>
          clear K6
          obtain ⟨k, hk, rfl, hk2⟩ := hrel
          have HBs := Lib.hid hk2.out.1
          have KS := Lib.hid hk2
          clear hk2
          by_cases hlt2 : k < es.length
          · obtain ⟨p, off, rfl, hKp, hr⟩ := HB2.out (by omega)
            have hx : es[k]? = some es[k] := List.getElem?_eq_getElem hlt2
            have hli := HE2.out es[k] (List.getElem_mem hlt2)
            have q0 := hr k _ hx
            obtain ⟨vl, c4, hls⟩ := q0.c4
            obtain ⟨Al, nl, cl, rfl⟩ : ∃ A n c, vl = .slice A n c := by
              obtain ⟨A, c, e, _⟩ := hls
              exact ⟨A, _, c, e⟩
            have HCell : Hid (∀ w' : World, Below wc.heap.size wc w' → w'.cell? ⟨p, off + k * 7, none⟩ = some (.int .i64 es[k].what) ∧ w'.cell? ⟨p, off + k * 7 + 1, none⟩ = some (.string es[k].name) ∧ w'.cell? ⟨p, off + k * 7 + 2, none⟩ = some (.string es[k].other) ∧ w'.cell? ⟨p, off + k * 7 + 3, none⟩ = some (.string es[k].text) ∧ w'.cell? ⟨p, off + k * 7 + 4, none⟩ = some (.slice Al nl cl) ∧
                w'.cell? ⟨p, off + k * 7 + 5, none⟩ = some (.int .i64 es[k].a) ∧ w'.cell? ⟨p, off + k * 7 + 6, none⟩ = some (.int .i64 es[k].b)) := Lib.hid (fun w' hb => by
              have hbt : Below w.heap.size w w' := ntrans HB.out hb
              have k := fun {o : Nat} {v : Value} (hc : w.cell? ⟨p, o, none⟩ = some v) => (hbt.cell (p := ⟨p, o, none⟩) (cell_lt hc)).trans hc
              exact ⟨k q0.c0, k q0.c1, k q0.c2, k q0.c3, k c4, k q0.c5, k q0.c6⟩)
            have HQ := Lib.hid (⟨q0.z1, q0.z2, q0.z3, q0.z4, q0.wa, q0.wb⟩ : es[k].name.size ≤ 140737488351232 ∧ es[k].other.size ≤ 140737488351232 ∧ es[k].text.size ≤ 140737488351232 ∧ es[k].lines.length ≤ 10000000000000 ∧ (-9223372036854775808 ≤ es[k].a ∧ es[k].a ≤ 9223372036854775807) ∧ (-9223372036854775808 ≤ es[k].b ∧ es[k].b ≤ 9223372036854775807))
            have HLs := Lib.hid hls
            have HLi := Lib.hid hli
            clear q0 hr hx hls hli c4
            generalize es[k] = d at *
            have HDo : Hid (∀ (w5 : World), Both wc.heap.size wc w5 g3 bm3 y (i + k) → Calls Tryz.prog 9 #[.pointer (some ⟨g3, 0, none⟩), .agg #[.int .i64 d.what, .string d.name, .string d.other, .string d.text, .slice Al nl cl, .int .i64 d.a, .int .i64 d.b]] w5 fun r w' => ∃ n, r = .returned (.int .i64 n) ∧ Midw wc.heap.size wc w' g3 bm3 y (i + k) d n) := Lib.hid (fun w5 h5 =>
              bDo d (fun k => k < w.heap.size) (.slice Al nl cl) (HLs.out.stay (Kept.of_below (ntrans HB.out h5.out.1) (fun _ h => h)) (fun _ h => h)) (fun k hk => Nat.lt_of_lt_of_le hk (Nat.le_trans hbs h5.out.2)) HQ.out.1 HQ.out.2.1 HQ.out.2.2.1 HQ.out.2.2.2.1 HQ.out.2.2.2.2.1 HQ.out.2.2.2.2.2 h5)
            have HTd : Hid (∀ (n : Int) (w5 : World), Midw wc.heap.size wc w5 g3 bm3 y (i + k) d n → Calls Tryz.prog 10 #[.pointer (some ⟨y, 0, none⟩), .agg #[.int .i64 d.what, .string d.name, .string d.other, .string d.text, .slice Al nl cl, .int .i64 d.a, .int .i64 d.b]] w5 fun r w' => r = .returned (.int .i64 n) ∧ Both wc.heap.size wc w' g3 bm3 y (i + k + 1)) := Lib.hid (fun n w5 h5 =>
              bTold d n (fun k => k < w.heap.size) (.slice Al nl cl) (HLs.out.stay (Kept.of_below (ntrans HB.out h5.out.1) (fun _ h => h)) (fun _ h => h)) (fun k hk => Nat.lt_of_lt_of_le hk (Nat.le_trans hbs h5.out.2)) HQ.out.1 HQ.out.2.1 HQ.out.2.2.1 HLi.out HQ.out.2.2.2.2.1 HQ.out.2.2.2.2.2 (by omega) h5)
            have HKd := Lib.hid (KS.out.below ((Below.refl _ _).drew))
            go_wp2_with fail
            go_region_held3 (fun w' => w'.cell? ⟨p, off + k * 7, none⟩ = some (.int .i64 d.what) ∧ w'.cell? ⟨p, off + k * 7 + 1, none⟩ = some (.string d.name) ∧ w'.cell? ⟨p, off + k * 7 + 2, none⟩ = some (.string d.other) ∧ w'.cell? ⟨p, off + k * 7 + 3, none⟩ = some (.string d.text) ∧ w'.cell? ⟨p, off + k * 7 + 4, none⟩ = some (.slice Al nl cl) ∧
                w'.cell? ⟨p, off + k * 7 + 5, none⟩ = some (.int .i64 d.a) ∧ w'.cell? ⟨p, off + k * 7 + 6, none⟩ = some (.int .i64 d.b))
              (first | exact HCell.out _ HBs.out | exact HCell.out _ HKd.out.out.1 | exact HCell.out _ K7.out.out.1 | exact HCell.out _ K8.out.out.1)
              (first
                | (go_at_call 9; refine (HDo.out _ HKd.out).mono ?_; rintro r w7 ⟨kk, rfl, hk7⟩; have K7 := Lib.hid hk7; clear hk7; have hkk : (kk != kk) = false := (by simp))
                | (go_at_call 10; refine (HTd.out _ _ K7.out).mono ?_; rintro r w8 ⟨rfl, hk8⟩; have K8 := Lib.hid hk8; clear hk8))
            all_goals
              go_wp2_with fail
              go_roundw
              case rel => exact ⟨k + 1, by omega, by go_num, K8.out⟩
              case measure => simp [intOf]; omega
          · have hA2 := bothAlike ⟨#[97]⟩ (by decide) KS.out
            have HA2 := Lib.hid hA2
            have HA1 := Lib.hid (fun (w9 : World) (hb : Below wc.heap.size wc w9) => bothAlike ⟨#[97]⟩ (by decide) (KK.out.below hb))
            clear hA2
            go_wp2_with (first
              | (go_at_call_of 11 (Value.pointer (some ⟨g3, 0, none⟩)); refine HA2.out.mono ?_; rintro r w7 ⟨rfl, hk7⟩; have K7 := Lib.hid hk7; clear hk7)
              | (go_at_call_of 11 (Value.pointer (some ⟨g, 0, none⟩)); refine (HA1.out _ K7.out.out.1).mono ?_; rintro r w8 ⟨rfl, hk8⟩; have K8 := Lib.hid hk8; clear hk8)
              | (go_at_call 6; refine (HS.out _).mono ?_; rintro e w9 ⟨rfl, hb9⟩))
            go_ret
            exact ⟨rfl, K8.out.out.1.trans (hb9.mono K8.out.out.2)⟩
end Go.Proofs.YtbedddgfijpbcaaGreat
