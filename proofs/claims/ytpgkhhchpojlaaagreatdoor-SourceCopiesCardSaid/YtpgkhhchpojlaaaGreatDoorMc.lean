/- Walk: whether both stacks tell the same. Both stacks side by side; deeds that change both alike. -/
import Derived.Test.YtpgkhhchpojlaaaGreatDoorMb
import Derived.Test.YtpgkhhchpojlaaaGreatDoorLc
import Derived.Test.YtpgkhhchpojlaaaGreatDoorKp
import Derived.Test.YtpgkhhchpojlaaaGreatDoorLb
namespace Go.Proofs.YtpgkhhchpojlaaaGreatDoor
open Go.RowKit Go.Maps Go.WideMaps

/-- The document's stack is one. -/
theorem docBase : CBase RKt := ⟨fun h hT h1 h2 => h.turn hT h1 h2, fun h => ⟨h.sets.2.1, h.sets.2.2.1⟩, fun h => h.ok⟩
theorem KTo.c {U K : Nat → Prop} {w w' : World} {x : Nat} {fs : List Fr} (h : KTo U K w w' x fs) : CTo RKt U K w w' x fs := h

section
variable {C : CStk} {U K U2 K2 : Nat → Prop} {w w' : World} {g x : Nat} {fs : List Fr}
/-- The next line's sizes. -/
theorem RKt.nxl (h : RKt U K w x fs) : (nxL fs).text.size ≤ 140737488351232 ∧ (nxL fs).boxes.length ≤ 1599289640401 := by
  unfold nxL
  split
  · exact ⟨Nat.zero_le _, Nat.zero_le _⟩
  · rename_i h0
    obtain ⟨g, c, v1, v2, _, _, _, _, _, _, hl, _, _⟩ := h.at_ (n := liveN fs) (by omega) (topN_le fs)
    cases hx : (frI fs (liveN fs - 1)).lines[(frI fs (liveN fs - 1)).pos]? with
    | none => exact ⟨Nat.zero_le _, Nat.zero_le _⟩
    | some l =>
      obtain ⟨A, cap, _, _, _, hr⟩ := hl
      have := (List.getElem?_eq_some_iff.1 hx).1
      obtain ⟨g', off, _, _, hr⟩ := hr (by omega)
      have := hr _ _ hx
      exact ⟨this.s0, this.s4⟩
set_option maxRecDepth 100000 in
set_option maxHeartbeats 2000000 in
/-- alike. -/
theorem cAlike (M : CMeth C) (h : C U K w g fs) (h2 : RKt U2 K2 w x fs) :
    Calls Tryz.prog 12 #[.pointer (some ⟨g, 0, none⟩), .pointer (some ⟨x, 0, none⟩)] w fun e w' => e = .returned (.bool true) ∧ Below w.heap.size w w' := by
  have hsz := h2.nxl
  have HC := Lib.hid (fun (w1 : World) (hb : Below w.heap.size w w1) => M.below h hb)
  have HR := Lib.hid (fun (w1 : World) (hb : Below w.heap.size w w1) => h2.below hb)
  have HP := Lib.hid (M.peek h)
  have HRP := Lib.hid (fun (w1 : World) (hb : Below w.heap.size w w1) => nPeek (h2.below hb))
  have HA := Lib.hid (fun (w1 : World) (hb : Below w.heap.size w w1) => M.args (HC.out w1 hb))
  have HRA := Lib.hid (fun (w1 : World) (hb : Below w.heap.size w w1) => nArgs (HR.out w1 hb))
  have HN := Lib.hid (fun (w1 : World) (hb : Below w.heap.size w w1) => M.name (HC.out w1 hb))
  have HRN := Lib.hid (fun (w1 : World) (hb : Below w.heap.size w w1) => nName (HR.out w1 hb))
  have HL := Lib.hid (fun (w1 : World) (hb : Below w.heap.size w w1) => M.line (HC.out w1 hb))
  have HRL := Lib.hid (fun (w1 : World) (hb : Below w.heap.size w w1) => nLineNo (HR.out w1 hb))
  have HD := Lib.hid (fun (w1 : World) (hb : Below w.heap.size w w1) => M.depth (HC.out w1 hb))
  have HRD := Lib.hid (fun (w1 : World) (hb : Below w.heap.size w w1) => nDepth (HR.out w1 hb))
  clear h h2 HC HR M
  generalize nxL fs = l at *
  generalize nxE fs = er at *
  generalize nmS fs = nm at *
  generalize lnI fs = li at *
  generalize agL fs = ag at *
  generalize fs.length = dp at *
  have hee : (er == er) = true := by simp
  have hnn : (nm.toList == nm.toList) = true := by simp
  have hll : ((li : Int) == (li : Int)) = true := by simp
  have hdd : ((dp : Int) == (dp : Int)) = true := by simp
  have HLn : Hid (∀ (w1 w2 : World) (A1 : Option Addr) (n1 c1 : Nat) (A2 : Option Addr) (n2 c2 : Nat), Below w.heap.size w w1 → BxsAt (fun k => w.heap.size ≤ k ∧ k < w1.heap.size) w1 (.slice A1 n1 c1) l.boxes → Below (w1.alloc (.cells #[.string l.text, .bool l.made, .int .i64 l.up, .int .i64 l.down, .slice A1 n1 c1] 31)).heap.size (w1.alloc (.cells #[.string l.text, .bool l.made, .int .i64 l.up, .int .i64 l.down, .slice A1 n1 c1] 31)) w2 → BxsAt (fun k => (w1.alloc (.cells #[.string l.text, .bool l.made, .int .i64 l.up, .int .i64 l.down, .slice A1 n1 c1] 31)).heap.size ≤ k ∧ k < w2.heap.size) w2 (.slice A2 n2 c2) l.boxes →
      Below w.heap.size w (w2.alloc (.cells #[.string l.text, .bool l.made, .int .i64 l.up, .int .i64 l.down, .slice A2 n2 c2] 31)) ∧ Blk (w2.alloc (.cells #[.string l.text, .bool l.made, .int .i64 l.up, .int .i64 l.down, .slice A2 n2 c2] 31)) w1.heap.size 31 #[.string l.text, .bool l.made, .int .i64 l.up, .int .i64 l.down, .slice A1 n1 c1] ∧ Calls Tryz.prog 11 #[.agg #[.string l.text, .bool l.made, .int .i64 l.up, .int .i64 l.down, .slice A1 n1 c1], .agg #[.string l.text, .bool l.made, .int .i64 l.up, .int .i64 l.down, .slice A2 n2 c2]] (w2.alloc (.cells #[.string l.text, .bool l.made, .int .i64 l.up, .int .i64 l.down, .slice A2 n2 c2] 31)) fun e w' => e = .returned (.bool true) ∧ Below (w2.alloc (.cells #[.string l.text, .bool l.made, .int .i64 l.up, .int .i64 l.down, .slice A2 n2 c2] 31)).heap.size (w2.alloc (.cells #[.string l.text, .bool l.made, .int .i64 l.up, .int .i64 l.down, .slice A2 n2 c2] 31)) w') := Lib.hid (fun w1 w2 A1 n1 c1 A2 n2 c2 hb1 hx1 hb2 hx2 => by
    have e1 : (w1.alloc (.cells #[.string l.text, .bool l.made, .int .i64 l.up, .int .i64 l.down, .slice A1 n1 c1] 31)).heap.size = w1.heap.size + 1 := by simp
    have hb12 : Below w1.heap.size w1 (w1.alloc (.cells #[.string l.text, .bool l.made, .int .i64 l.up, .int .i64 l.down, .slice A1 n1 c1] 31)) := (Below.refl _ _).alloc (Nat.le_refl _) _
    have hb23 : Below w2.heap.size w2 (w2.alloc (.cells #[.string l.text, .bool l.made, .int .i64 l.up, .int .i64 l.down, .slice A2 n2 c2] 31)) := (Below.refl _ _).alloc (Nat.le_refl _) _
    have s2 := hb2.size
    have e3 : (w2.alloc (.cells #[.string l.text, .bool l.made, .int .i64 l.up, .int .i64 l.down, .slice A2 n2 c2] 31)).heap.size = w2.heap.size + 1 := by simp
    have hb13 : Below w1.heap.size w1 (w2.alloc (.cells #[.string l.text, .bool l.made, .int .i64 l.up, .int .i64 l.down, .slice A2 n2 c2] 31)) := hb12.trans ((hb2.trans (hb23.mono s2)).mono (by omega))
    refine ⟨hb1.trans (hb13.mono hb1.size), ((Blk.new w1 _ _).below hb2 (by omega)).alloc _, lLine l (fun k => k < w1.heap.size) (fun k => k < w2.heap.size) (.slice A1 n1 c1) (.slice A2 n2 c2) (w2.alloc (.cells #[.string l.text, .bool l.made, .int .i64 l.up, .int .i64 l.down, .slice A2 n2 c2] 31)) (hx1.stay (Kept.of_below hb13 (fun i hi => hi.2)) (fun i hi => hi.2)) (hx2.stay (Kept.of_below hb23 (fun i hi => hi.2)) (fun i hi => hi.2)) (fun k hk => by omega) (fun k hk => by omega) hsz.1 hsz.2⟩)
  clear hsz
  go_enter Tryz.func12, Tryz.ntmps12
  go_wp2_with (first
    | (go_at_call 20; refine HP.out.mono ?_; rintro e w1 ⟨⟨v1, rfl, hx1⟩, hb1⟩; obtain ⟨A1, n1, c1, rfl⟩ : ∃ A n c, v1 = .slice A n c := (by obtain ⟨A, c, e, _⟩ := hx1; exact ⟨A, _, c, e⟩); have HX1 := Lib.hid hx1; have HB1 := Lib.hid hb1; clear hx1 hb1)
    | (go_at_call 28; refine (HRP.out _ (HB1.out.alloc HB1.out.size _)).mono ?_; rintro e w2 ⟨⟨v2, rfl, hx2⟩, hb2⟩; obtain ⟨A2, n2, c2, rfl⟩ : ∃ A n c, v2 = .slice A n c := (by obtain ⟨A, c, e, _⟩ := hx2; exact ⟨A, _, c, e⟩); obtain ⟨hb3, hbk, hln⟩ := HLn.out w1 w2 A1 n1 c1 A2 n2 c2 HB1.out HX1.out hb2 hx2; have HB3 := Lib.hid hb3; have HLi := Lib.hid hln; have p0 := hbk.cell 0; have p1 := hbk.cell 1; have p2 := hbk.cell 2; have p3 := hbk.cell 3; have p4 := hbk.cell 4; simp only [List.getElem?_toArray, List.getElem?_cons_zero, List.getElem?_cons_succ] at p0 p1 p2 p3 p4; clear hx2 hb2 hb3 hbk hln)
    | (go_at_call 11; refine HLi.out.mono ?_; rintro e w4 ⟨rfl, hb4⟩; have HB4 := Lib.hid (HB3.out.trans (hb4.mono HB3.out.size)); clear hb4)
    | (go_at_call 34; refine (HA.out _ HB4.out).mono ?_; rintro e w5 ⟨A5, n5, c5, rfl, hs5, hb5⟩; have HB5 := Lib.hid (HB4.out.trans (hb5.mono HB4.out.size)); have HS5 := Lib.hid hs5; clear hb5 hs5)
    | (go_at_call 35; refine (HRA.out _ HB5.out).mono ?_; rintro e w6 ⟨A6, n6, c6, rfl, hs6, hb6⟩; have HB6 := Lib.hid (HB5.out.trans (hb6.mono HB5.out.size)); have HT := Lib.hid (lTexts _ _ _ _ _ w6 (HS5.out.stay (Kept.of_below hb6 (fun i hi => hi.2)) (fun _ h => h)) hs6); clear hb6 hs6)
    | (go_at_call 33; refine HT.out.mono ?_; rintro e w7 ⟨rfl, hb7⟩; have HB7 := Lib.hid (HB6.out.trans (hb7.mono HB6.out.size)); clear hb7)
    | (go_at_call 36; refine (HN.out _ HB7.out).mono ?_; rintro e w8 ⟨rfl, hb8⟩; have HB8 := Lib.hid (HB7.out.trans (hb8.mono HB7.out.size)); clear hb8)
    | (go_at_call 37; refine (HRN.out _ HB8.out).mono ?_; rintro e w9 ⟨rfl, rfl⟩)
    | (go_at_call 38; refine (HL.out _ HB8.out).mono ?_; rintro e w9 ⟨rfl, hb9⟩; have HB9 := Lib.hid (HB8.out.trans (hb9.mono HB8.out.size)); clear hb9)
    | (go_at_call 39; refine (HRL.out _ HB9.out).mono ?_; rintro e w10 ⟨rfl, rfl⟩)
    | (go_at_call 13; refine (HD.out _ HB9.out).mono ?_; rintro e w10 ⟨rfl, hb10⟩; have HB10 := Lib.hid (HB9.out.trans (hb10.mono HB9.out.size)); clear hb10)
    | (go_at_call 40; refine (HRD.out _ HB10.out).mono ?_; rintro e w11 ⟨rfl, rfl⟩))
  go_ret
  exact ⟨rfl, HB10.out⟩
end
end Go.Proofs.YtpgkhhchpojlaaaGreatDoor
namespace Go.Proofs.YtpgkhhchpojlaaaGreatDoor
open Go.RowKit Go.Maps Go.WideMaps

/-- Both stacks, of blocks since w0, apart from each other. -/
structure Both (C : CStk) (w0 w : World) (g x : Nat) (fs : List Fr) (U K U2 K2 : Nat → Prop) : Prop where
  below : Below w0.heap.size w0 w
  c : C U K w g fs
  r : RKt U2 K2 w x fs
  u : ∀ i, U i → w0.heap.size ≤ i
  u2 : ∀ i, U2 i → w0.heap.size ≤ i
  k2 : ∀ i, K2 i → w0.heap.size ≤ i
  a1 : ∀ i, U i → ¬ U2 i ∧ ¬ K2 i
  a2 : ∀ i, U2 i → ¬ K i
/-- The code's stack has done a deed, the document's not yet. -/
structure Mid (C : CStk) (w0 w : World) (g x : Nat) (fs fs' : List Fr) (U K U2 K2 : Nat → Prop) : Prop where
  below : Below w0.heap.size w0 w
  c : C U K w g fs'
  r : RKt U2 K2 w x fs
  u : ∀ i, U i → w0.heap.size ≤ i
  u2 : ∀ i, U2 i → w0.heap.size ≤ i
  k2 : ∀ i, K2 i → w0.heap.size ≤ i
  a1 : ∀ i, U i → ¬ U2 i ∧ ¬ K2 i
  a2 : ∀ i, U2 i → ¬ K i
section
variable {C : CStk} {w0 w w' : World} {g x : Nat} {fs fs' : List Fr} {U K U2 K2 : Nat → Prop}
theorem Both.on (M : CBase C) (h : Both C w0 w g x fs U K U2 K2) (hb : Below w.heap.size w w') : Both C w0 w' g x fs U K U2 K2 :=
  ⟨h.below.trans (hb.mono h.below.size), M.below h.c hb, h.r.below hb, h.u, h.u2, h.k2, h.a1, h.a2⟩
theorem Mid.on (M : CBase C) (h : Mid C w0 w g x fs fs' U K U2 K2) (hb : Below w.heap.size w w') : Mid C w0 w' g x fs fs' U K U2 K2 :=
  ⟨h.below.trans (hb.mono h.below.size), M.below h.c hb, h.r.below hb, h.u, h.u2, h.k2, h.a1, h.a2⟩
theorem Both.code (_M : CBase C) (h : Both C w0 w g x fs U K U2 K2) (hk : CTo C U K w w' g fs') : ∃ U' K', Mid C w0 w' g x fs fs' U' K' U2 K2 := by
  obtain ⟨U', K', k1, k2, k3, k4⟩ := hk
  have hs := h.below.size
  have hr := h.r.sets
  refine ⟨U', K', k2.below h.below hs h.u, k1, h.r.turn k2 (fun i hi hu => (h.a1 i hu).1 hi) (fun i hi hu => (h.a1 i hu).2 hi), fun i hi => ?_, h.u2, h.k2, fun i hi => ?_, fun i hi hk => ?_⟩
  · rcases k3 i hi with h3 | h3
    · exact h.u i h3
    · omega
  · rcases k3 i hi with h3 | h3
    · exact h.a1 i h3
    · exact ⟨fun h4 => by have := hr.2.1 i h4; omega, fun h4 => by have := hr.2.2.1 i h4; omega⟩
  · rcases k4 i hk with h3 | h3
    · exact h.a2 i hi h3
    · have := hr.2.1 i hi
      omega
theorem Mid.doc (M : CBase C) (h : Mid C w0 w g x fs fs' U K U2 K2) (hk : KTo U2 K2 w w' x fs') : ∃ U' K', Both C w0 w' g x fs' U K U' K' := by
  obtain ⟨U', K', k1, k2, k3, k4⟩ := hk
  have hs := h.below.size
  have hc := M.sets h.c
  refine ⟨U', K', k2.below h.below hs h.u2, M.turn h.c k2 (fun i hi hu => (h.a1 i hi).1 hu) (fun i hi hu => h.a2 i hu hi), k1, h.u, fun i hi => ?_, fun i hi => ?_, fun i hi => ⟨fun h4 => ?_, fun h4 => ?_⟩, fun i hi hk => ?_⟩
  · rcases k3 i hi with h3 | h3
    · exact h.u2 i h3
    · omega
  · rcases k4 i hi with h3 | h3
    · exact h.k2 i h3
    · omega
  · rcases k3 i h4 with h3 | h3
    · exact (h.a1 i hi).1 h3
    · have := hc.1 i hi
      omega
  · rcases k4 i h4 with h3 | h3
    · exact (h.a1 i hi).2 h3
    · have := hc.1 i hi
      omega
  · rcases k3 i hi with h3 | h3
    · exact h.a2 i h3 hk
    · have := hc.2 i hk
      omega
/-- Two new stacks. -/
theorem both_of {w1 : World} {f1 : List Fr} (M : CBase C) (hc : CNw C w0 w1 g f1) (hr : CNew RKt w1 w' x f1) : ∃ U K U2 K2, Both C w0 w' g x f1 U K U2 K2 := by
  obtain ⟨U, K, c1, c2, c4⟩ := hc
  obtain ⟨U2, K2, r1, r2, r3, r4⟩ := hr
  have hs := c4.size
  have hc := M.sets c1
  exact ⟨U, K, U2, K2, c4.trans (r4.mono hs), M.below c1 r4, r1, c2, fun i hi => Nat.le_trans hs (r2 i hi), fun i hi => Nat.le_trans hs (r3 i hi), fun i hi => ⟨fun h4 => by have := hc.1 i hi; have := r2 i h4; omega, fun h4 => by have := hc.1 i hi; have := r3 i h4; omega⟩, fun i hi hk => by have := hc.2 i hk; have := r2 i hi; omega⟩
theorem newR {w : World} {x : Nat} (h : RKt (fun i => w.heap.size ≤ i ∧ i < w'.heap.size) (fun _ => False) w' x []) (hb : Below w.heap.size w w') : CNew RKt w w' x [] := ⟨_, _, h, fun _i hi => hi.1, fun _i hi => hi.elim, hb⟩
/-- What a deed answers has sizes that are in bounds. -/
theorem RKt.ddl (h : RKt U K w x fs) (d : Dd) : (ddL fs d).text.size ≤ 140737488351232 ∧ (ddL fs d).boxes.length ≤ 1599289640401 := by
  unfold ddL
  split
  · exact h.nxl
  · split
    · exact h.nxl
    · exact ⟨Nat.zero_le _, Nat.zero_le _⟩
end
end Go.Proofs.YtpgkhhchpojlaaaGreatDoor
