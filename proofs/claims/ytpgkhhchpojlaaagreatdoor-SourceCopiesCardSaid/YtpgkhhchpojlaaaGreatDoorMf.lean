/- Walk: the fixed example. -/
import Derived.Test.YtpgkhhchpojlaaaGreatDoorMa
import Derived.Test.YtpgkhhchpojlaaaGreatDoorLc
namespace Go.Proofs.YtpgkhhchpojlaaaGreatDoor
open Go.RowKit Go.Maps Go.WideMaps

/-- The code's stack, since w0, and blocks that it does not write. -/
structure CH (C : CStk) (w0 w : World) (g : Nat) (fs : List Fr) (P U K : Nat → Prop) : Prop where
  below : Below w0.heap.size w0 w
  c : C U K w g fs
  u : ∀ i, U i → w0.heap.size ≤ i
  p : ∀ i, P i → ¬ U i ∧ i < w.heap.size
section
variable {C : CStk} {w0 w w' : World} {g : Nat} {fs fs' : List Fr} {P U K : Nat → Prop}
theorem CH.call (h : CH C w0 w g fs P U K) (hk : CTo C U K w w' g fs') : ∃ U' K', CH C w0 w' g fs' P U' K' ∧ ∀ b t cs, P b → Blk w b t cs → Blk w' b t cs := by
  obtain ⟨U', K', k1, k2, k3, k4⟩ := hk
  have hs := h.below.size
  refine ⟨U', K', ⟨k2.below h.below hs h.u, k1, fun i hi => ?_, fun i hi => ⟨fun hu => ?_, Nat.lt_of_lt_of_le (h.p i hi).2 k2.size⟩⟩, fun b t cs hb hbk => k2.blk hbk (h.p b hb).1⟩
  · rcases k3 i hi with h3 | h3
    · exact h.u i h3
    · omega
  · rcases k3 i hu with h3 | h3
    · exact (h.p i hi).1 h3
    · have := (h.p i hi).2
      omega
theorem CH.on (M : CBase C) (h : CH C w0 w g fs P U K) (hb : Below w.heap.size w w') : CH C w0 w' g fs P U K :=
  ⟨h.below.trans (hb.mono h.below.size), M.below h.c hb, h.u, fun i hi => ⟨(h.p i hi).1, Nat.lt_of_lt_of_le (h.p i hi).2 hb.size⟩⟩
theorem CH.alloc (M : CBase C) (h : CH C w0 w g fs P U K) (o : Obj) : CH C w0 (w.alloc o) g fs (fun i => P i ∨ i = w.heap.size) U K := by
  have hb := (Below.refl w.heap.size w).alloc (Nat.le_refl _) o
  have h2 := h.on M hb
  refine ⟨h2.below, h2.c, h2.u, fun i hi => ?_⟩
  rcases hi with hi | hi
  · exact h2.p i hi
  · subst hi
    exact ⟨fun hu => by have := (M.sets h.c).1 _ hu; omega, by simp⟩
theorem CH.new (hc : CNew C w0 w g fs) : ∃ U K, CH C w0 w g fs (fun _ => False) U K := by
  obtain ⟨U, K, h1, h2, h3, h4⟩ := hc
  exact ⟨U, K, h4, h1, h2, fun i hi => hi.elim⟩
end
abbrev nmF : ByteArray := ⟨#[102]⟩
abbrev nmM : ByteArray := ⟨#[109]⟩
abbrev txA : ByteArray := ⟨#[97]⟩
abbrev txB : ByteArray := ⟨#[98]⟩
abbrev txC : ByteArray := ⟨#[99]⟩
abbrev txF : ByteArray := ⟨#[97, 10, 98, 10]⟩
def sn1 : List Fr := putF (nmdB nmF && rdB txF) [] (filFr nmF txF)
def sn3 : List Fr := putF (nmdB nmM && lsOk [tLn txC]) (nxF sn1) (macFr nmM [tLn txC] [])
theorem sn_e1 : putE (nmdB nmF && rdB txF) [] = 0 := by decide +kernel
theorem sn_e3 : putE (nmdB nmM && lsOk [tLn txC]) (nxF sn1) = 0 := by decide +kernel
theorem sn_l1 : nxL sn1 = tLn txA ∧ nxE sn1 = 0 := ⟨by rfl, by decide +kernel⟩
theorem sn_l3 : nxL sn3 = tLn txC ∧ nxE sn3 = 0 := ⟨by rfl, by decide +kernel⟩
theorem sn_l4 : nxL (nxF sn3) = tLn txB ∧ nxE (nxF sn3) = 0 := ⟨by rfl, by decide +kernel⟩
section
variable {C : CStk}
set_option maxRecDepth 100000 in
set_option maxHeartbeats 2000000 in
/-- sane. -/
theorem lSane (M : CMeth C) (w : World) : Calls Tryz.prog 6 #[] w fun e w' => e = .returned (.bool true) ∧ Below w.heap.size w w' := by
  have HNew := Lib.hid (M.new w)
  have HFile : Hid (∀ (w1 : World) (g : Nat) (P U K : Nat → Prop), CH C w w1 g [] P U K → Calls Tryz.prog 16 #[.pointer (some ⟨g, 0, none⟩), .string ⟨#[102]⟩, .string ⟨#[97, 10, 98, 10]⟩] w1 fun e w2 => e = .returned (.int .i64 0) ∧ ∃ U' K', CH C w w2 g sn1 P U' K' ∧ ∀ b t cs, P b → Blk w1 b t cs → Blk w2 b t cs) := Lib.hid (fun w1 g P U K h =>
    (M.file nmF txF (by decide) (by decide) h.c).mono fun e w2 ⟨h1, h2⟩ => ⟨by rw [h1, sn_e1], h.call h2⟩)
  have HMac : Hid (∀ (w1 : World) (g : Nat) (P U K : Nat → Prop) (k : Nat), w1.heap.size = k → CH C w w1 g (nxF sn1) P U K → Calls Tryz.prog 18 #[.pointer (some ⟨g, 0, none⟩), .string ⟨#[109]⟩, .slice (some ⟨k, 0, none⟩) 1 1, .slice none 0 0] (w1.alloc (.cells #[.string ⟨#[99]⟩, .bool false, .int .i64 0, .int .i64 0, .slice none 0 0] 31)) fun e w2 => e = .returned (.int .i64 0) ∧ ∃ U' K', CH C w w2 g sn3 P U' K' ∧ ∀ b t cs, P b → Blk w1 b t cs → Blk w2 b t cs) := Lib.hid (fun w1 g P U K k hk0 h => by
    subst hk0
    have hb := (Below.refl w1.heap.size w1).alloc (Nat.le_refl _) (.cells #[.string ⟨#[99]⟩, .bool false, .int .i64 0, .int .i64 0, .slice none 0 0] 31)
    have h2 := h.on M.toCBase hb
    have hl : LnsAt (fun k => k = w1.heap.size) (w1.alloc (.cells #[.string ⟨#[99]⟩, .bool false, .int .i64 0, .int .i64 0, .slice none 0 0] 31)) (.slice (some ⟨w1.heap.size, 0, none⟩) 1 1) [tLn txC] :=
      one_line (K := fun _ => False) (w := w1) (l := tLn txC) (v := .slice none 0 0) (Blk.new _ _ _) rfl RowAt.nil (fun i hi => hi.elim) (fun i hi => hi.elim) (by show (1 : Nat) ≤ _; omega) (Nat.zero_le _)
    refine (M.macro_ nmM (fun k => k = w1.heap.size) _ _ [tLn txC] [] (by decide) (by decide) (by decide) hl RowAt.nil (fun k hk => by subst hk; simp) h2.c).mono ?_
    rintro e w2 ⟨h3, h4⟩
    obtain ⟨U', K', h5, h6⟩ := h2.call h4
    exact ⟨by rw [h3, sn_e3], U', K', h5, fun b t cs hp hbk => h6 b t cs hp (hbk.alloc _)⟩)
  have HNx : Hid (∀ (fs : List Fr) (t : ByteArray), nxL fs = tLn t ∧ nxE fs = 0 → ∀ (w1 : World) (g : Nat) (P U K : Nat → Prop), CH C w w1 g fs P U K → Calls Tryz.prog 17 #[.pointer (some ⟨g, 0, none⟩)] w1 fun e w2 => (∃ A n c, e = .returned (.tuple #[.agg #[.string t, .bool false, .int .i64 0, .int .i64 0, .slice A n c], .int .i64 0])) ∧ ∃ U' K', CH C w w2 g (nxF fs) P U' K' ∧ ∀ b t cs, P b → Blk w1 b t cs → Blk w2 b t cs) := Lib.hid (fun fs t hl w1 g P U K h =>
    (M.next h.c).mono fun e w2 ⟨h1, h2⟩ => by
      rw [hl.1, hl.2] at h1
      obtain ⟨v, h3, A, c, rfl, _⟩ := h1
      exact ⟨⟨A, _, c, h3⟩, h.call h2⟩)
  have HN1 := Lib.hid (HNx.out sn1 ⟨#[97]⟩ sn_l1)
  have HN3 := Lib.hid (HNx.out sn3 ⟨#[99]⟩ sn_l3)
  have HN4 := Lib.hid (HNx.out (nxF sn3) ⟨#[98]⟩ sn_l4)
  have HAl := Lib.hid (fun (w1 : World) (g : Nat) (fs : List Fr) (P U K : Nat → Prop) (h : CH C w w1 g fs P U K) (o : Obj) => h.alloc M.toCBase o)
  clear HNx M
  generalize sn1 = f1 at *
  generalize nxF f1 = f2 at *
  generalize sn3 = f3 at *
  generalize nxF f3 = f4 at *
  generalize nxF f4 = f5 at *
  have hta : ((⟨#[97]⟩ : ByteArray).toList == (⟨#[97]⟩ : ByteArray).toList) = true := by simp
  have htb : ((⟨#[98]⟩ : ByteArray).toList == (⟨#[98]⟩ : ByteArray).toList) = true := by simp
  have htc : ((⟨#[99]⟩ : ByteArray).toList == (⟨#[99]⟩ : ByteArray).toList) = true := by simp
  go_enter Tryz.func6, Tryz.ntmps6
  go_wp2_with (first
    | (go_at_call 7; refine HNew.out.mono ?_; rintro e w1 ⟨g, rfl, hc⟩; obtain ⟨U1, K1, h1⟩ := CH.new hc; have H1 := Lib.hid h1; clear hc h1)
    | (go_at_call 16; refine (HFile.out _ _ _ _ _ H1.out).mono ?_; rintro e w2 ⟨rfl, U2, K2, h2, _⟩; have H2 := Lib.hid h2; clear h2)
    | (go_at_call 17; (with_reducible refine (HN1.out _ _ _ _ _ H2.out).mono ?_); rintro e w3 ⟨⟨A3, n3, c3, rfl⟩, U3, K3, h3, _⟩; have H3 := Lib.hid (HAl.out _ _ _ _ _ _ h3 (.cells #[.string ⟨#[97]⟩, .bool false, .int .i64 0, .int .i64 0, .slice A3 n3 c3] 31)); have HB3 := Lib.hid (Blk.new w3 31 #[.string ⟨#[97]⟩, .bool false, .int .i64 0, .int .i64 0, .slice A3 n3 c3]); clear h3  H2)
    | (go_at_call 18; refine (HMac.out _ _ _ _ _ (w3.heap.size + 1) (by simp) H3.out).mono ?_; rintro e w4 ⟨rfl, U4, K4, h4, hk4⟩; have H4 := Lib.hid h4; have HB4 := Lib.hid (hk4 _ _ _ (.inr rfl) HB3.out); clear h4 hk4)
    | (go_at_call 17; (with_reducible refine (HN3.out _ _ _ _ _ H4.out).mono ?_); rintro e w5 ⟨⟨A5, n5, c5, rfl⟩, U5, K5, h5, hk5⟩; have H5 := Lib.hid (HAl.out _ _ _ _ _ _ h5 (.cells #[.string ⟨#[99]⟩, .bool false, .int .i64 0, .int .i64 0, .slice A5 n5 c5] 31)); have HB5 := Lib.hid (Blk.new w5 31 #[.string ⟨#[99]⟩, .bool false, .int .i64 0, .int .i64 0, .slice A5 n5 c5]); have HB45 := Lib.hid ((hk5 _ _ _ (.inr rfl) HB4.out).alloc (.cells #[.string ⟨#[99]⟩, .bool false, .int .i64 0, .int .i64 0, .slice A5 n5 c5] 31)); clear h5 hk5  H4)
    | (go_at_call 17; (with_reducible refine (HN4.out _ _ _ _ _ H5.out).mono ?_); rintro e w6 ⟨⟨A6, n6, c6, rfl⟩, U6, K6, h6, hk6⟩; have H6 := Lib.hid (HAl.out _ _ _ _ _ _ h6 (.cells #[.string ⟨#[98]⟩, .bool false, .int .i64 0, .int .i64 0, .slice A6 n6 c6] 31)); have q0 := ((hk6 _ _ _ (.inl (.inr rfl)) HB45.out).alloc (.cells #[.string ⟨#[98]⟩, .bool false, .int .i64 0, .int .i64 0, .slice A6 n6 c6] 31)).cell 0; have q1 := ((hk6 _ _ _ (.inr rfl) HB5.out).alloc (.cells #[.string ⟨#[98]⟩, .bool false, .int .i64 0, .int .i64 0, .slice A6 n6 c6] 31)).cell 0; simp only [List.getElem?_toArray, List.getElem?_cons_zero] at q0 q1; clear h6 hk6  H5))
  go_ret
  exact ⟨rfl, H6.out.below⟩
end
end Go.Proofs.YtpgkhhchpojlaaaGreatDoor
