/- Walk: the statement on what a stack is. -/
import Derived.Test.YtpgkhhchpojlaaaGreatDoorMc
namespace Go.Proofs.YtpgkhhchpojlaaaGreatDoor
open Go.RowKit Go.Maps Go.WideMaps

theorem Both.since {C : CStk} {w0 w1 w : World} {g x : Nat} {fs : List Fr} {U K U2 K2 : Nat → Prop} (hb : Below w0.heap.size w0 w1) (h : Both C w1 w g x fs U K U2 K2) : Both C w0 w g x fs U K U2 K2 :=
  have hs := hb.size
  ⟨hb.trans (h.below.mono hs), h.c, h.r, fun i hi => Nat.le_trans hs (h.u i hi), fun i hi => Nat.le_trans hs (h.u2 i hi), fun i hi => Nat.le_trans hs (h.k2 i hi), h.a1, h.a2⟩
section
variable {C : CStk}
/-- One deed, done to both: what the round needs. -/
structure Round (C : CStk) (w wr : World) (g x p off i : Nat) (d : Dd) (Al : Option Addr) (cl : Nat) (As : Option Addr) (cs : Nat) (l : Ln) (er : Int) (fs' : List Fr) : Prop where
  cells : wr.cell? ⟨p, off + i * 6, none⟩ = some (.int .i64 d.what) ∧ wr.cell? ⟨p, off + i * 6 + 1, none⟩ = some (.string d.name) ∧ wr.cell? ⟨p, off + i * 6 + 2, none⟩ = some (.string d.text) ∧ wr.cell? ⟨p, off + i * 6 + 3, none⟩ = some (.slice Al d.lines.length cl) ∧ wr.cell? ⟨p, off + i * 6 + 4, none⟩ = some (.slice As d.args.length cs) ∧ wr.cell? ⟨p, off + i * 6 + 5, none⟩ = some (.int .i64 d.n)
  do_ : Calls Tryz.prog 9 #[.pointer (some ⟨g, 0, none⟩), .agg #[.int .i64 d.what, .string d.name, .string d.text, .slice Al d.lines.length cl, .slice As d.args.length cs, .int .i64 d.n]] wr fun e w1 => ∃ A1 n1 c1, e = .returned (.tuple #[.agg #[.string l.text, .bool l.made, .int .i64 l.up, .int .i64 l.down, .slice A1 n1 c1], .int .i64 er]) ∧
    ((w1.alloc (.cells #[.string l.text, .bool l.made, .int .i64 l.up, .int .i64 l.down, .slice A1 n1 c1] 31)).cell? ⟨p, off + i * 6, none⟩ = some (.int .i64 d.what) ∧ (w1.alloc (.cells #[.string l.text, .bool l.made, .int .i64 l.up, .int .i64 l.down, .slice A1 n1 c1] 31)).cell? ⟨p, off + i * 6 + 1, none⟩ = some (.string d.name) ∧ (w1.alloc (.cells #[.string l.text, .bool l.made, .int .i64 l.up, .int .i64 l.down, .slice A1 n1 c1] 31)).cell? ⟨p, off + i * 6 + 2, none⟩ = some (.string d.text) ∧ (w1.alloc (.cells #[.string l.text, .bool l.made, .int .i64 l.up, .int .i64 l.down, .slice A1 n1 c1] 31)).cell? ⟨p, off + i * 6 + 3, none⟩ = some (.slice Al d.lines.length cl) ∧ (w1.alloc (.cells #[.string l.text, .bool l.made, .int .i64 l.up, .int .i64 l.down, .slice A1 n1 c1] 31)).cell? ⟨p, off + i * 6 + 4, none⟩ = some (.slice As d.args.length cs) ∧ (w1.alloc (.cells #[.string l.text, .bool l.made, .int .i64 l.up, .int .i64 l.down, .slice A1 n1 c1] 31)).cell? ⟨p, off + i * 6 + 5, none⟩ = some (.int .i64 d.n)) ∧
    Calls Tryz.prog 10 #[.pointer (some ⟨x, 0, none⟩), .agg #[.int .i64 d.what, .string d.name, .string d.text, .slice Al d.lines.length cl, .slice As d.args.length cs, .int .i64 d.n]] (w1.alloc (.cells #[.string l.text, .bool l.made, .int .i64 l.up, .int .i64 l.down, .slice A1 n1 c1] 31)) fun e w2 => ∃ A2 n2 c2, e = .returned (.tuple #[.agg #[.string l.text, .bool l.made, .int .i64 l.up, .int .i64 l.down, .slice A2 n2 c2], .int .i64 er]) ∧
      Blk (w2.alloc (.cells #[.string l.text, .bool l.made, .int .i64 l.up, .int .i64 l.down, .slice A2 n2 c2] 31)) w1.heap.size 31 #[.string l.text, .bool l.made, .int .i64 l.up, .int .i64 l.down, .slice A1 n1 c1] ∧
      Calls Tryz.prog 11 #[.agg #[.string l.text, .bool l.made, .int .i64 l.up, .int .i64 l.down, .slice A1 n1 c1], .agg #[.string l.text, .bool l.made, .int .i64 l.up, .int .i64 l.down, .slice A2 n2 c2]] (w2.alloc (.cells #[.string l.text, .bool l.made, .int .i64 l.up, .int .i64 l.down, .slice A2 n2 c2] 31)) fun e w3 => e = .returned (.bool true) ∧ (∃ U K U2 K2, Both C w w3 g x fs' U K U2 K2) ∧
        Calls Tryz.prog 12 #[.pointer (some ⟨g, 0, none⟩), .pointer (some ⟨x, 0, none⟩)] w3 fun e w4 => e = .returned (.bool true) ∧
          Calls Tryz.prog 13 #[.pointer (some ⟨g, 0, none⟩)] w4 fun e w5 => e = .returned (.int .i64 (fs'.length : Nat)) ∧ ∃ U K U2 K2, Both C w w5 g x fs' U K U2 K2
set_option maxRecDepth 100000 in
theorem round_of (M : CMeth C) {w wr : World} {g x p off i : Nat} {d : Dd} {fs : List Fr} {U K U2 K2 : Nat → Prop} (hB : Both C w wr g x fs U K U2 K2) (hd : ddR (fun k => k < w.heap.size) w p (off + i * 6) d) (hp : p < w.heap.size) (hz : d.text.size ≤ 1000000) :
    ∃ Al cl As cs, Round C w wr g x p off i d Al cl As cs (ddL fs d) (ddE fs d) (ddF fs d) := by
  have hkeep : ∀ w1, Below w.heap.size w w1 → ddR (fun k => k < w.heap.size) w1 p (off + i * 6) d := fun w1 hb => hd.keep hp (Kept.of_below hb (fun i hi => hi)) (fun _ h => h)
  obtain ⟨v3, q3, Al, cl, rfl, a1, a2, a3⟩ := hd.c3
  obtain ⟨v4, q4, As, cs, rfl, b1, b2, b3⟩ := hd.c4
  have hl3 : LnsAt (fun k => k < w.heap.size) w (.slice Al d.lines.length cl) d.lines := ⟨Al, cl, rfl, a1, a2, a3⟩
  have hl4 : SsAt (fun k => k < w.heap.size) w (.slice As d.args.length cs) d.args := ⟨As, cs, rfl, b1, b2, b3⟩
  have hcell : ∀ w1, Below w.heap.size w w1 → w1.cell? ⟨p, off + i * 6, none⟩ = some (.int .i64 d.what) ∧ w1.cell? ⟨p, off + i * 6 + 1, none⟩ = some (.string d.name) ∧ w1.cell? ⟨p, off + i * 6 + 2, none⟩ = some (.string d.text) ∧ w1.cell? ⟨p, off + i * 6 + 3, none⟩ = some (.slice Al d.lines.length cl) ∧ w1.cell? ⟨p, off + i * 6 + 4, none⟩ = some (.slice As d.args.length cs) ∧ w1.cell? ⟨p, off + i * 6 + 5, none⟩ = some (.int .i64 d.n) := fun w1 hb => by
    have c : ∀ {o : Nat} {v : Value}, w.cell? ⟨p, o, none⟩ = some v → w1.cell? ⟨p, o, none⟩ = some v := fun hc => (Kept.of_below (K := fun k => k < w.heap.size) hb (fun i hi => hi)).cell hp hc
    exact ⟨c hd.c0, c hd.c1, c hd.c2, c q3, c q4, c hd.c5⟩
  have hst3 : ∀ w1, Below w.heap.size w w1 → LnsAt (fun k => k < w.heap.size) w1 (.slice Al d.lines.length cl) d.lines := fun w1 hb => hl3.stay (Kept.of_below hb (fun i hi => hi)) (fun _ h => h)
  have hst4 : ∀ w1, Below w.heap.size w w1 → SsAt (fun k => k < w.heap.size) w1 (.slice As d.args.length cs) d.args := fun w1 hb => hl4.stay (Kept.of_below hb (fun i hi => hi)) (fun _ h => h)
  have hz1 : d.name.size ≤ maxLen := Nat.le_trans hd.z1 (by decide)
  have hsz := hB.r.ddl d
  refine ⟨Al, cl, As, cs, hcell _ hB.below, ?_⟩
  refine (cDo M d (fun k => k < w.heap.size) _ _ (hst3 _ hB.below) (hst4 _ hB.below) (fun k hk => Nat.lt_of_lt_of_le hk hB.below.size) hz1 hz hd.z3 hd.z4 hd.wn hB.c).mono ?_
  rintro e w1 ⟨⟨v1, rfl, hx1⟩, hk1⟩
  obtain ⟨A1, n1, c1, rfl⟩ : ∃ A n c, v1 = .slice A n c := by obtain ⟨A, c, e, _⟩ := hx1; exact ⟨A, _, c, e⟩
  generalize hL : ddL fs d = l at *
  obtain ⟨Ua, Ka, hm1⟩ := hB.code M.toCBase hk1
  have hb1 : Below w1.heap.size w1 (w1.alloc (.cells #[.string l.text, .bool l.made, .int .i64 l.up, .int .i64 l.down, .slice A1 n1 c1] 31)) := (Below.refl _ _).alloc (Nat.le_refl _) _
  have hm := hm1.on M.toCBase hb1
  have hw1 : wr.heap.size ≤ w1.heap.size := by obtain ⟨_, _, _, hT, _, _⟩ := hk1; exact hT.size
  have e1 : (w1.alloc (.cells #[.string l.text, .bool l.made, .int .i64 l.up, .int .i64 l.down, .slice A1 n1 c1] 31)).heap.size = w1.heap.size + 1 := by simp
  refine ⟨A1, n1, c1, rfl, hcell _ hm.below, ?_⟩
  refine (nTold d (fun k => k < w.heap.size) _ _ (hst3 _ hm.below) (hst4 _ hm.below) (fun k hk => Nat.lt_of_lt_of_le hk hm.below.size) hz1 hz hd.z3 hd.z4 hm.r).mono ?_
  rintro e w2 ⟨⟨v2, rfl, hx2⟩, hk2⟩
  obtain ⟨A2, n2, c2, rfl⟩ : ∃ A n c, v2 = .slice A n c := by obtain ⟨A, c, e, _⟩ := hx2; exact ⟨A, _, c, e⟩
  rw [hL] at hx2
  obtain ⟨Ub, Kb, hb2⟩ := hm.doc M.toCBase hk2
  have hT2 : Turn U2 (w1.alloc (.cells #[.string l.text, .bool l.made, .int .i64 l.up, .int .i64 l.down, .slice A1 n1 c1] 31)) w2 := by obtain ⟨_, _, _, hT, _, _⟩ := hk2; exact hT
  have hU2 : ∀ i, U2 i → i < wr.heap.size := hB.r.sets.2.1
  have hb22 : Below w2.heap.size w2 (w2.alloc (.cells #[.string l.text, .bool l.made, .int .i64 l.up, .int .i64 l.down, .slice A2 n2 c2] 31)) := (Below.refl _ _).alloc (Nat.le_refl _) _
  have hb3 := hb2.on M.toCBase hb22
  have e2 : (w2.alloc (.cells #[.string l.text, .bool l.made, .int .i64 l.up, .int .i64 l.down, .slice A2 n2 c2] 31)).heap.size = w2.heap.size + 1 := by simp
  have s2 := hT2.size
  refine ⟨A2, n2, c2, by rw [hL], (hT2.blk (Blk.new w1 _ _) (fun hu => by have := hU2 _ hu; omega)).alloc _, ?_⟩
  refine (lLine l (fun k => k < w1.heap.size ∧ wr.heap.size ≤ k) (fun k => k < w2.heap.size) (.slice A1 n1 c1) (.slice A2 n2 c2) (w2.alloc (.cells #[.string l.text, .bool l.made, .int .i64 l.up, .int .i64 l.down, .slice A2 n2 c2] 31)) ?_ (hx2.stay (Kept.of_all hb22) (fun i hi => hi.2)) (fun k hk => by omega) (fun k hk => by omega) hsz.1 hsz.2).mono ?_
  · refine hx1.stay (fun i hi hil => ?_) (fun i hi => ⟨hi.2, hi.1⟩)
    exact (hb22.block i (by omega)).trans ((hT2.block i (by omega) (fun hu => by have := hU2 _ hu; have := hi.1; omega)).trans (hb1.block i hil))
  rintro e w3 ⟨rfl, hb33⟩
  have hB3 := hb3.on M.toCBase hb33
  refine ⟨rfl, ⟨_, _, _, _, hB3⟩, (cAlike M hB3.c hB3.r).mono ?_⟩
  rintro e w4 ⟨rfl, hb44⟩
  have hB4 := hB3.on M.toCBase hb44
  refine ⟨rfl, (M.depth hB4.c).mono ?_⟩
  rintro e w5 ⟨rfl, hb55⟩
  exact ⟨rfl, _, _, _, _, hB4.on M.toCBase hb55⟩
set_option maxRecDepth 100000 in
set_option maxHeartbeats 2000000 in
/-- SourcePlays. -/
theorem lPlays (M : CMeth C) (hS : ∀ w : World, Calls Tryz.prog 6 #[] w fun e w' => e = .returned (.bool true) ∧ Below w.heap.size w w') (v : Value) (ds : List Dd) (w : World) (h : DdsAt (fun k => k < w.heap.size) w v ds) :
    Calls Tryz.prog 3 #[v] w fun e w' => e = .returned (.bool true) ∧ Below w.heap.size w w' := by
  have HBig := Lib.hid (lBig2 v ds w h)
  obtain ⟨A, cap, rfl, a1, a2, a3⟩ := h
  have HA := Lib.hid a3
  have HS := Lib.hid hS
  have HNew := Lib.hid (fun w => M.new w)
  clear a3 hS
  unfold maxLen at a2
  go_enter Tryz.func3, Tryz.ntmps3
  go_wp2_with (first
    | (go_at_call 5; refine HBig.out.mono ?_; rintro e w1 ⟨⟨b, rfl, hf⟩, hb1⟩; have HF := Lib.hid hf; have HB1 := Lib.hid hb1; clear hf hb1)
    | (go_at_call 6; refine (HS.out _).mono ?_; rintro e w2 ⟨rfl, hb2⟩)
    | (go_at_call 7; refine (HNew.out _).mono ?_; rintro e w2 ⟨g, rfl, hc2⟩; have HC2 := Lib.hid hc2; clear hc2)
    | (go_at_call 8; refine (nNew _).mono ?_; rintro e w3 ⟨x, rfl, hr3, hb3⟩; have HB3 := Lib.hid (both_of M.toCBase HC2.out.w (newR hr3 hb3)); clear hr3 hb3))
  · go_ret
    exact ⟨rfl, HB1.out.trans (hb2.mono HB1.out.size)⟩
  · have HBf : Hid (b = false) := Lib.hid (by first | assumption | (simp only [Bool.not_eq_true] at *; assumption))
    go_loopw [5] (fun v5 wr => ∃ i : Nat, i ≤ ds.length ∧ v5 = .int .i64 i ∧ ∃ fs U K U2 K2, Both C w wr g x fs U K U2 K2) (fun v5 _ => ds.length - (intOf v5).toNat)
    case atStart =>
      obtain ⟨U, K, U2, K2, hB⟩ := HB3.out
      exact ⟨0, Nat.zero_le _, rfl, [], U, K, U2, K2, hB.since HB1.out⟩
    case round =>
      obtain ⟨i, hi, rfl, fs, U, K, U2, K2, hB⟩ := hrel
      have HB := Lib.hid hB
      clear hB
      by_cases hlt : i < ds.length
      · obtain ⟨p, off, rfl, hp, hr⟩ := HA.out (by omega)
        have hx := List.getElem?_eq_getElem hlt
        have hd := hr i _ hx
        have hfew := (HF.out HBf.out).2 _ (List.mem_of_getElem? hx)
        generalize ds[i] = d at *
        obtain ⟨Al, cl, As, cs, hR⟩ := round_of M HB.out hd hp (by omega)
        have hok := (M.ok HB.out.c).1
        have HR := Lib.hid hR
        obtain ⟨k0, k1, k2, k3, k4, k5⟩ := hR.cells
        clear hR hd hx hr hfew
        have hlenI : ∀ fs', (∃ U K U2 K2, ∃ w5, Both C w w5 g x fs' U K U2 K2) → ¬ (50 : Int) < ((List.length fs' : Nat) : Int) := fun fs' ⟨_, _, _, _, _, h⟩ => by
          have := (M.ok h.c).1
          omega
        have HLen := Lib.hid hlenI
        clear hlenI
        generalize ddL fs d = l at *
        generalize ddE fs d = er at *
        generalize ddF fs d = fs' at *
        have hee : (er != er) = false := by simp
        go_wp2_with (first
          | (go_at_call 9; refine HR.out.do_.mono ?_; rintro e w1 ⟨A1, n1, c1, rfl, ⟨l0, l1, l2, l3, l4, l5⟩, ht⟩; have HT := Lib.hid ht; clear ht)
          | (go_at_call 10; refine HT.out.mono ?_; rintro e w2 ⟨A2, n2, c2, rfl, hbk, hl⟩; have HL := Lib.hid hl; have p0 := hbk.cell 0; have p1 := hbk.cell 1; have p2 := hbk.cell 2; have p3 := hbk.cell 3; have p4 := hbk.cell 4; simp only [List.getElem?_toArray, List.getElem?_cons_zero, List.getElem?_cons_succ] at p0 p1 p2 p3 p4; clear hl hbk)
          | (go_at_call 11; refine HL.out.mono ?_; rintro e w3 ⟨rfl, _, ha⟩; have HAl := Lib.hid ha; clear ha)
          | (go_at_call 12; refine HAl.out.mono ?_; rintro e w4 ⟨rfl, hdp⟩; have HDp := Lib.hid hdp; clear hdp)
          | (go_at_call 13; refine HDp.out.mono ?_; rintro e w5 ⟨rfl, hB5⟩; have h50 := HLen.out fs' (by obtain ⟨U, K, U2, K2, h⟩ := hB5; exact ⟨U, K, U2, K2, w5, h⟩); have HB5 := Lib.hid hB5; clear hB5))
        go_roundw
        case rel => exact ⟨i + 1, by omega, by go_num, fs', HB5.out⟩
        case measure => simp [intOf]; omega
      · go_wp2_with (go_at_call 6; refine (HS.out _).mono ?_; rintro e w7 ⟨rfl, hb7⟩)
        go_ret
        exact ⟨rfl, HB.out.below.trans (hb7.mono HB.out.below.size)⟩
end
end Go.Proofs.YtpgkhhchpojlaaaGreatDoor
