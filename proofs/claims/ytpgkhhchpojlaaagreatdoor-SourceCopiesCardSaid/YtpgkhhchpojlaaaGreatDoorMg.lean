/- Walk: the statement on copies. -/
import Derived.Test.YtpgkhhchpojlaaaGreatDoorMe
import Derived.Test.YtpgkhhchpojlaaaGreatDoorKl
namespace Go.Proofs.YtpgkhhchpojlaaaGreatDoor
open Go.RowKit Go.Maps Go.WideMaps

theorem DdsAt.on {w w1 : World} {v : Value} {ds : List Dd} (h : DdsAt (fun k => k < w.heap.size) w v ds) (hb : Below w.heap.size w w1) : DdsAt (fun k => k < w1.heap.size) w1 v ds :=
  RowAt.imp h (fun _ hi => Nat.lt_of_lt_of_le hi hb.size) (fun _ _ _ _ ha hr => hr.keep ha (Kept.of_below hb (fun _ hi => hi)) (fun _ hi => Nat.lt_of_lt_of_le hi hb.size))
section
variable {C : CStk}
/-- One deed, done to both, whatever they answer. -/
structure RoundA (C : CStk) (w wr : World) (g x p off i : Nat) (d : Dd) (Al : Option Addr) (cl : Nat) (As : Option Addr) (cs : Nat) (fs' : List Fr) : Prop where
  cells : wr.cell? ⟨p, off + i * 6, none⟩ = some (.int .i64 d.what) ∧ wr.cell? ⟨p, off + i * 6 + 1, none⟩ = some (.string d.name) ∧ wr.cell? ⟨p, off + i * 6 + 2, none⟩ = some (.string d.text) ∧ wr.cell? ⟨p, off + i * 6 + 3, none⟩ = some (.slice Al d.lines.length cl) ∧ wr.cell? ⟨p, off + i * 6 + 4, none⟩ = some (.slice As d.args.length cs) ∧ wr.cell? ⟨p, off + i * 6 + 5, none⟩ = some (.int .i64 d.n)
  do_ : Calls Tryz.prog 9 #[.pointer (some ⟨g, 0, none⟩), .agg #[.int .i64 d.what, .string d.name, .string d.text, .slice Al d.lines.length cl, .slice As d.args.length cs, .int .i64 d.n]] wr fun e w1 => (∃ u1 u2, e = .returned (.tuple #[u1, u2])) ∧ (w1.cell? ⟨p, off + i * 6, none⟩ = some (.int .i64 d.what) ∧ w1.cell? ⟨p, off + i * 6 + 1, none⟩ = some (.string d.name) ∧ w1.cell? ⟨p, off + i * 6 + 2, none⟩ = some (.string d.text) ∧ w1.cell? ⟨p, off + i * 6 + 3, none⟩ = some (.slice Al d.lines.length cl) ∧ w1.cell? ⟨p, off + i * 6 + 4, none⟩ = some (.slice As d.args.length cs) ∧ w1.cell? ⟨p, off + i * 6 + 5, none⟩ = some (.int .i64 d.n)) ∧
    Calls Tryz.prog 10 #[.pointer (some ⟨x, 0, none⟩), .agg #[.int .i64 d.what, .string d.name, .string d.text, .slice Al d.lines.length cl, .slice As d.args.length cs, .int .i64 d.n]] w1 fun e w2 => (∃ u1 u2, e = .returned (.tuple #[u1, u2])) ∧ ∃ U K U2 K2, Both C w w2 g x fs' U K U2 K2
set_option maxRecDepth 100000 in
theorem roundA_of (M : CMeth C) {w wr : World} {g x p off i : Nat} {d : Dd} {fs : List Fr} {U K U2 K2 : Nat → Prop} (hB : Both C w wr g x fs U K U2 K2) (hd : ddR (fun k => k < w.heap.size) w p (off + i * 6) d) (hp : p < w.heap.size) (hz : d.text.size ≤ 1000000) :
    ∃ Al cl As cs, RoundA C w wr g x p off i d Al cl As cs (ddF fs d) := by
  obtain ⟨v3, q3, Al, cl, rfl, a1, a2, a3⟩ := hd.c3
  obtain ⟨v4, q4, As, cs, rfl, b1, b2, b3⟩ := hd.c4
  have hl3 : LnsAt (fun k => k < w.heap.size) w (.slice Al d.lines.length cl) d.lines := ⟨Al, cl, rfl, a1, a2, a3⟩
  have hl4 : SsAt (fun k => k < w.heap.size) w (.slice As d.args.length cs) d.args := ⟨As, cs, rfl, b1, b2, b3⟩
  have hcell : ∀ w1, Below w.heap.size w w1 → w1.cell? ⟨p, off + i * 6, none⟩ = some (.int .i64 d.what) ∧ w1.cell? ⟨p, off + i * 6 + 1, none⟩ = some (.string d.name) ∧ w1.cell? ⟨p, off + i * 6 + 2, none⟩ = some (.string d.text) ∧ w1.cell? ⟨p, off + i * 6 + 3, none⟩ = some (.slice Al d.lines.length cl) ∧ w1.cell? ⟨p, off + i * 6 + 4, none⟩ = some (.slice As d.args.length cs) ∧ w1.cell? ⟨p, off + i * 6 + 5, none⟩ = some (.int .i64 d.n) := fun w1 hb => by
    have c : ∀ {o : Nat} {v : Value}, w.cell? ⟨p, o, none⟩ = some v → w1.cell? ⟨p, o, none⟩ = some v := fun hc => (Kept.of_below (K := fun k => k < w.heap.size) hb (fun i hi => hi)).cell hp hc
    exact ⟨c hd.c0, c hd.c1, c hd.c2, c q3, c q4, c hd.c5⟩
  have hst3 : ∀ w1, Below w.heap.size w w1 → LnsAt (fun k => k < w.heap.size) w1 (.slice Al d.lines.length cl) d.lines := fun w1 hb => hl3.stay (Kept.of_below hb (fun i hi => hi)) (fun _ h => h)
  have hst4 : ∀ w1, Below w.heap.size w w1 → SsAt (fun k => k < w.heap.size) w1 (.slice As d.args.length cs) d.args := fun w1 hb => hl4.stay (Kept.of_below hb (fun i hi => hi)) (fun _ h => h)
  have hz1 : d.name.size ≤ maxLen := Nat.le_trans hd.z1 (by decide)
  refine ⟨Al, cl, As, cs, hcell _ hB.below, ?_⟩
  refine (cDo M d (fun k => k < w.heap.size) _ _ (hst3 _ hB.below) (hst4 _ hB.below) (fun k hk => Nat.lt_of_lt_of_le hk hB.below.size) hz1 hz hd.z3 hd.z4 hd.wn hB.c).mono ?_
  rintro e w1 ⟨⟨v1, rfl, hx1⟩, hk1⟩
  obtain ⟨Ua, Ka, hm⟩ := hB.code M.toCBase hk1
  refine ⟨⟨_, _, rfl⟩, hcell _ hm.below, ?_⟩
  refine (nTold d (fun k => k < w.heap.size) _ _ (hst3 _ hm.below) (hst4 _ hm.below) (fun k hk => Nat.lt_of_lt_of_le hk hm.below.size) hz1 hz hd.z3 hd.z4 hm.r).mono ?_
  rintro e w2 ⟨⟨v2, rfl, hx2⟩, hk2⟩
  obtain ⟨Ub, Kb, hb2⟩ := hm.doc M.toCBase hk2
  exact ⟨⟨_, _, rfl⟩, _, _, _, _, hb2⟩
theorem copyR {w w' : World} {y : Nat} {fs : List Fr} (h : CpRel w y fs w') : CNew RKt w w' y fs := by
  obtain ⟨h1, U, K, h2, h3, h4⟩ := h
  exact ⟨U, K, h2, h3, h4, h1⟩
set_option maxRecDepth 100000 in
set_option maxHeartbeats 2000000 in
/-- SourceCopies. -/
theorem lCopies (M : CMeth C) (hS : ∀ w : World, Calls Tryz.prog 6 #[] w fun e w' => e = .returned (.bool true) ∧ Below w.heap.size w w') (v v2 : Value) (ds ds2 : List Dd) (w : World) (h : DdsAt (fun k => k < w.heap.size) w v ds) (h2 : DdsAt (fun k => k < w.heap.size) w v2 ds2) :
    Calls Tryz.prog 4 #[v, v2] w fun e w' => e = .returned (.bool true) ∧ Below w.heap.size w w' := by
  have HBig := Lib.hid (lBig2 v ds w h)
  have HBig2 := Lib.hid (fun (w1 : World) (hb : Below w.heap.size w w1) => lBig2 v2 ds2 w1 (h2.on hb))
  have H2 := Lib.hid (fun (w1 : World) (hb : Below w.heap.size w w1) => h2.on hb)
  obtain ⟨A, cap, rfl, a1, a2, a3⟩ := h
  obtain ⟨A2, cap2, rfl, b1, b2, _⟩ := h2
  have HA := Lib.hid a3
  have HS := Lib.hid hS
  have HNew := Lib.hid (fun w => M.new w)
  clear a3 hS
  unfold maxLen at a2 b2
  go_enter Tryz.func4, Tryz.ntmps4
  go_wp2_with (first
    | (go_at_call 5; (with_reducible refine HBig.out.mono ?_); rintro e w1 ⟨⟨b, rfl, hf⟩, hb1⟩; have HF := Lib.hid hf; have HB1 := Lib.hid hb1; clear hf hb1 HBig)
    | (go_at_call 5; refine (HBig2.out _ HB1.out).mono ?_; rintro e w2 ⟨⟨b', rfl, hf⟩, hb2⟩; have HF2 := Lib.hid hf; have HB2 := Lib.hid (HB1.out.trans (hb2.mono HB1.out.size)); clear hf hb2)
    | (go_at_call 6; (first | (with_reducible refine (HS.out _).mono ?_)); rintro e w9 ⟨rfl, hb9⟩)
    | (go_at_call 7; refine (HNew.out _).mono ?_; rintro e w3 ⟨g, rfl, hc2⟩; have HC2 := Lib.hid hc2; clear hc2)
    | (go_at_call 8; refine (nNew _).mono ?_; rintro e w4 ⟨x, rfl, hr3, hb3⟩; have HB3 := Lib.hid (both_of M.toCBase HC2.out.w (newR hr3 hb3)); clear hr3 hb3))
  · go_ret
    exact ⟨rfl, HB1.out.trans (hb9.mono HB1.out.size)⟩
  · go_ret
    exact ⟨rfl, HB2.out.trans (hb9.mono HB2.out.size)⟩
  · have HBf : Hid (b = false) := Lib.hid (by first | assumption | (simp only [Bool.not_eq_true] at *; assumption))
    have HBf2 : Hid (b' = false) := Lib.hid (by first | assumption | (simp only [Bool.not_eq_true] at *; assumption))
    go_loopw [7] (fun v7 wr => ∃ i : Nat, i ≤ ds.length ∧ v7 = .int .i64 i ∧ ∃ fs U K U2 K2, Both C w wr g x fs U K U2 K2) (fun v7 _ => ds.length - (intOf v7).toNat)
    case atStart =>
      obtain ⟨U, K, U2, K2, hB⟩ := HB3.out
      exact ⟨0, Nat.zero_le _, rfl, [], U, K, U2, K2, hB.since HB2.out⟩
    case round =>
      obtain ⟨i, hi, rfl, fs, U, K, U2, K2, hB⟩ := hrel
      have HB := Lib.hid hB
      clear hB HBig2
      by_cases hlt : i < ds.length
      · obtain ⟨p, off, rfl, hp, hr⟩ := HA.out (by omega)
        have hx := List.getElem?_eq_getElem hlt
        have hd := hr i _ hx
        have hfew := (HF.out HBf.out).2 _ (List.mem_of_getElem? hx)
        generalize ds[i] = d at *
        obtain ⟨Al, cl, As, cs, hR⟩ := roundA_of M HB.out hd hp (by omega)
        have HR := Lib.hid hR
        obtain ⟨k0, k1, k2, k3, k4, k5⟩ := hR.cells
        clear hR hd hx hr hfew
        generalize ddF fs d = fs' at *
        go_wp2_with (first
          | (go_at_call 9; refine HR.out.do_.mono ?_; rintro e w5 ⟨⟨u1, u2, rfl⟩, ⟨l0, l1, l2, l3, l4, l5⟩, ht⟩; have HT := Lib.hid ht; clear ht)
          | (go_at_call 10; refine HT.out.mono ?_; rintro e w6 ⟨⟨u3, u4, rfl⟩, hB6⟩; have HB6 := Lib.hid hB6; clear hB6))
        go_roundw
        case rel => exact ⟨i + 1, by omega, by go_num, fs', HB6.out⟩
        case measure => simp [intOf]; omega
      · have HCp := Lib.hid (M.copy HB.out.c)
        have HRc := Lib.hid (fun (w1 : World) (hb : Below wr.heap.size wr w1) => nCopy (HB.out.r.below hb))
        have HOld := Lib.hid (fun (w1 : World) (hb : Below wr.heap.size wr w1) => cAlike M (M.below HB.out.c hb) (HB.out.r.below hb))
        go_wp2_with (first
          | (go_at_call 14; refine HCp.out.mono ?_; rintro e w5 ⟨g', rfl, hc⟩; have HC := Lib.hid hc; have HC4 : Hid (Below wr.heap.size wr w5) := Lib.hid (by obtain ⟨_, _, _, _, h4⟩ := hc; exact h4); clear hc)
          | (go_at_call 15; refine (HRc.out _ HC4.out).mono ?_; rintro e w6 ⟨y, rfl, hr⟩; have HB7 := Lib.hid (both_of M.toCBase HC.out (copyR hr)); clear hr))
        have HD2 := Lib.hid (H2.out wr HB.out.below)
        have HWr := Lib.hid HB.out.below
        obtain ⟨A2', cap2', e2, _, _, d3⟩ := HD2.out
        injection e2 with e2 e3 e4
        subst e2 e4
        have HA2 := Lib.hid d3
        clear d3 e3 HCp HRc HC HC4 HB
        go_loopw [10] (fun v10 wi => ∃ i : Nat, i ≤ ds2.length ∧ v10 = .int .i64 i ∧ ∃ fs U K U2 K2, Both C wr wi g' y fs U K U2 K2) (fun v10 _ => ds2.length - (intOf v10).toNat)
        case atStart =>
          obtain ⟨U, K, U2, K2, hB⟩ := HB7.out
          exact ⟨0, Nat.zero_le _, rfl, _, U, K, U2, K2, hB⟩
        case round =>
          obtain ⟨k, hk, rfl, fs, U, K, U2, K2, hB⟩ := hrel
          have HB := Lib.hid hB
          clear hB
          by_cases hlt2 : k < ds2.length
          · obtain ⟨p, off, rfl, hp, hr⟩ := HA2.out (by omega)
            have hx := List.getElem?_eq_getElem hlt2
            have hd := hr k _ hx
            have hfew := (HF2.out HBf2.out).2 _ (List.mem_of_getElem? hx)
            generalize ds2[k] = d at *
            obtain ⟨Al, cl, As, cs, hR⟩ := round_of M HB.out hd hp (by omega)
            have HR := Lib.hid hR
            obtain ⟨k0, k1, k2, k3, k4, k5⟩ := hR.cells
            clear hR hd hx hr hfew
            generalize ddL fs d = l at *
            generalize ddE fs d = er at *
            generalize ddF fs d = fs' at *
            have hee : (er != er) = false := by simp
            go_wp2_with (first
              | (go_at_call 9; refine HR.out.do_.mono ?_; rintro e w1 ⟨A1, n1, c1, rfl, ⟨l0, l1, l2, l3, l4, l5⟩, ht⟩; have HT := Lib.hid ht; clear ht)
              | (go_at_call 10; refine HT.out.mono ?_; rintro e w2 ⟨A2, n2, c2, rfl, hbk, hl⟩; have HL := Lib.hid hl; have p0 := hbk.cell 0; have p1 := hbk.cell 1; have p2 := hbk.cell 2; have p3 := hbk.cell 3; have p4 := hbk.cell 4; simp only [List.getElem?_toArray, List.getElem?_cons_zero, List.getElem?_cons_succ] at p0 p1 p2 p3 p4; clear hl hbk)
              | (go_at_call 11; refine HL.out.mono ?_; rintro e w3 ⟨rfl, hB3, _⟩; have HB8 := Lib.hid hB3; clear hB3))
            go_roundw
            case rel => exact ⟨k + 1, by omega, by go_num, fs', HB8.out⟩
            case measure => simp [intOf]; omega
          · have HNewA := Lib.hid (cAlike M HB.out.c HB.out.r)
            go_wp2_with (first
              | (go_at_call 12; (with_reducible refine HNewA.out.mono ?_); rintro e w5 ⟨rfl, hb5⟩; have HB5 := Lib.hid (HB.out.below.trans (hb5.mono HB.out.below.size)); clear hb5 HNewA)
              | (go_at_call 12; (with_reducible refine (HOld.out _ HB5.out).mono ?_); rintro e w6 ⟨rfl, hb6⟩; have HB6 := Lib.hid (HB5.out.trans (hb6.mono HB5.out.size)); clear hb6)
              | (go_at_call 6; refine (HS.out _).mono ?_; rintro e w7 ⟨rfl, hb7⟩; have HB9 := Lib.hid (HB6.out.trans (hb7.mono HB6.out.size)); clear hb7))
            go_ret
            exact ⟨rfl, HWr.out.trans (HB9.out.mono HWr.out.size)⟩
end
end Go.Proofs.YtpgkhhchpojlaaaGreatDoor
