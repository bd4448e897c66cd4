/- A store of the call's own; walks: the fixed example. -/
import Derived.Test.YtbedddgfijpbcaaGreatQj
namespace Go.Proofs.YtbedddgfijpbcaaGreat
open Go.RowKit Go.Maps Go.WideMaps

/-- A store in blocks from b on; ahead of b all is as in w0. -/
def St (b : Nat) (w0 w : World) (g bm : Nat) (L : List Ent) (E : Nat → En) : Prop :=
  ∃ U F R, StAt U F R w g bm L E ∧ (∀ i, U i → b ≤ i) ∧ (∀ i, F i → b ≤ i) ∧ Below b w0 w ∧ b ≤ w.heap.size
/-- What an entry that is put leaves. -/
def PutAt (b : Nat) (w0 w : World) (g bm : Nat) (L : List Ent) (E : Nat → En) (s : ByteArray) (en : En) : Prop :=
  ∃ e', St b w0 w g bm (putR L s e') (upd E e' en) ∧ (hasB L s = true → e' = getR L s) ∧ (hasB L s = false → ∀ p ∈ L, p.2 ≠ e')
section
variable {U F : Nat → Prop} {R : Nat → Option Nat} {b : Nat} {w0 w w' : World} {g bm : Nat} {L : List Ent} {E : Nat → En}
theorem St.below (h : St b w0 w g bm L E) (hb : Below w.heap.size w w') : St b w0 w' g bm L E := by
  obtain ⟨U, F, R, h1, h2, h3, h4, h5⟩ := h
  exact ⟨U, F, R, h1.below hb, h2, h3, h4.trans (hb.mono h5), Nat.le_trans h5 hb.size⟩
theorem St.out (h : St b w0 w g bm L E) : Below b w0 w := by
  obtain ⟨U, F, R, _, _, _, h4, _⟩ := h
  exact h4
theorem PutTo.st {s : ByteArray} {en : En} (h : StAt U F R w g bm L E) (hU : ∀ i, U i → b ≤ i) (hF : ∀ i, F i → b ≤ i) (hB : Below b w0 w) (hb : b ≤ w.heap.size) (hp : PutTo U F g bm w w' L E s en) : PutAt b w0 w' g bm L E s en := by
  obtain ⟨e', U', F', R', h1, h2, h3, h4, h5, h6⟩ := hp
  refine ⟨e', ⟨U', F', R', h1, fun i hi => ?_, fun i hi => ?_, Turn.below hB h2 hb hU, Nat.le_trans hb h2.size⟩, h5, fun hh p hp => Nat.ne_of_lt (Nat.lt_of_lt_of_le (h.ids p hp) (h6 hh))⟩
  · rcases h3 i hi with h | h
    · exact hU i h
    · omega
  · rcases h4 i hi with h | h
    · exact hF i h
    · omega
theorem ToEnd.st {e : Nat} {en : En} (hU : ∀ i, U i → b ≤ i) (hF : ∀ i, F i → b ≤ i) (hB : Below b w0 w) (hb : b ≤ w.heap.size) (hp : ToEnd U F g bm w w' L E e en) : St b w0 w' g bm L (upd E e en) := by
  obtain ⟨U', F', R', h1, h2, h3, h4⟩ := hp
  refine ⟨U', F', R', h1, fun i hi => ?_, fun i hi => ?_, Turn.below hB h2 hb hU, Nat.le_trans hb h2.size⟩
  · rcases h3 i hi with h | h
    · exact hU i h
    · omega
  · rcases h4 i hi with h | h
    · exact hF i h
    · omega
theorem sNew (E : Nat → En) (hB : Below b w0 w) (hb : b ≤ w.heap.size) :
    Calls Tryz.prog 7 #[] w fun e w' => ∃ g bm, e = .returned (.pointer (some ⟨g, 0, none⟩)) ∧ St b w0 w' g bm [] E :=
  (cNew w E).mono fun _ w' ⟨h1, h2, h3⟩ => ⟨_, _, h1, _, _, _, h2, fun i hi => by subst hi; exact hb, fun _ h => h.elim, hB.trans (h3.mono hb), Nat.le_trans hb h3.size⟩
theorem sDefine (s t : ByteArray) (hs : s.size ≤ maxLen) (ht : t.size ≤ maxLen) (h : St b w0 w g bm L E) :
    Calls Tryz.prog 14 #[.pointer (some ⟨g, 0, none⟩), .string s, .string t] w fun e w' => e = .returned (.int .i64 (dfE L s t)) ∧
      (dfE L s t ≠ 0 → St b w0 w' g bm L E) ∧ (dfE L s t = 0 → PutAt b w0 w' g bm L E s (.str t)) := by
  have h' := h
  obtain ⟨U, F, R, h1, h2, h3, h4, h5⟩ := h
  exact (cDefine s t hs ht h1).mono fun _ w' ⟨g1, g2, g3⟩ => ⟨g1, fun h => h'.below (g2 h), fun h => (g3 h).st h1 h2 h3 h4 h5⟩
theorem sAppend (s t : ByteArray) (hs : s.size ≤ maxLen) (ht : t.size ≤ maxLen) (h : St b w0 w g bm L E) :
    Calls Tryz.prog 17 #[.pointer (some ⟨g, 0, none⟩), .string s, .string t] w fun e w' => e = .returned (.int .i64 (apE L E s t)) ∧
      (apE L E s t ≠ 0 → St b w0 w' g bm L E) ∧ (apE L E s t = 0 → PutAt b w0 w' g bm L E s (.str (apT L E s t))) := by
  have h' := h
  obtain ⟨U, F, R, h1, h2, h3, h4, h5⟩ := h
  exact (cAppend s t hs ht h1).mono fun _ w' ⟨g1, g2, g3⟩ => ⟨g1, fun h => h'.below (g2 h), fun h => (g3 h).st h1 h2 h3 h4 h5⟩
theorem sTxt (s : ByteArray) (hs : s.size ≤ maxLen) (h : St b w0 w g bm L E) :
    Calls Tryz.prog 16 #[.pointer (some ⟨g, 0, none⟩), .string s] w fun e w' => e = .returned (txV L E s) ∧ w = w' := by
  obtain ⟨U, F, R, h1, h2, h3, h4, h5⟩ := h
  exact cTxt s hs h1
theorem sPart (s : ByteArray) (hs : s.size ≤ maxLen) (x y : Int) (hx : -9223372036854775808 ≤ x) (hy : -9223372036854775808 ≤ y) (h : St b w0 w g bm L E) :
    Calls Tryz.prog 15 #[.pointer (some ⟨g, 0, none⟩), .string s, .int .i64 x, .int .i64 y] w fun e w' => e = .returned (.int .i64 (fdE L s)) ∧
      (hasB L s = false → St b w0 w' g bm L E) ∧ (hasB L s = true → St b w0 w' g bm L (upd E (getR L s) (ptE (E (getR L s)) x y))) := by
  have h' := h
  obtain ⟨U, F, R, h1, h2, h3, h4, h5⟩ := h
  exact (cPart s hs x y hx hy h1).mono fun _ w' ⟨g1, g2, g3⟩ => ⟨g1, fun h => (by rw [← g2 h]; exact h'), fun h => (g3 h).st h2 h3 h4 h5⟩
end
/-! ### a store of one name -/
theorem has_one (s : ByteArray) (e : Nat) : hasB [(s, e)] s = true := by simp [hasB, idx, nlt_irr]
theorem get_one (s : ByteArray) (e : Nat) : getR [(s, e)] s = e := by simp [getR, idx, nlt_irr]
def nA : ByteArray := ⟨#[97]⟩
theorem nA_size : nA.size ≤ maxLen := by decide
theorem nA_ok : nameB nA = true := by decide
theorem put_first {b : Nat} {w0 w : World} {g bm : Nat} {E : Nat → En} {s : ByteArray} {en : En} (h : PutAt b w0 w g bm [] E s en) : ∃ e, St b w0 w g bm [(s, e)] (upd E e en) := by
  obtain ⟨e, h, _⟩ := h
  exact ⟨e, h⟩
theorem df_first (s t : ByteArray) (hn : nameB s = true) (ht : textB t = true) : dfE [] s t = 0 := by
  unfold dfE chk
  rw [ht, hn]; rfl
def E0 : Nat → En := fun _ => .str ⟨#[]⟩
theorem tAbcde : textB ⟨#[97, 98, 99, 100, 101]⟩ = true := by decide +kernel
theorem ptAbcde : ptE (.str ⟨#[97, 98, 99, 100, 101]⟩) 1 (-2) = .str ⟨#[98, 99, 100]⟩ := by
  unfold ptE En.kept
  show En.str _ = _
  congr 1
set_option maxHeartbeats 400000 in
/-- The fixed example. -/
theorem lSane (w : World) : Calls Tryz.prog 6 #[] w fun e w' => e = .returned (.bool true) ∧ Below w.heap.size w w' := by
  have H1 := Lib.hid (sNew (b := w.heap.size) (w0 := w) (w := w) E0 (Below.refl _ _) (Nat.le_refl _))
  have H2 : Hid (∀ (w1 : World) g bm, St w.heap.size w w1 g bm [] E0 → Calls Tryz.prog 14 #[.pointer (some ⟨g, 0, none⟩), .string ⟨#[97]⟩, .string ⟨#[97, 98, 99, 100, 101]⟩] w1 fun x w' => x = .returned (.int .i64 0) ∧ ∃ e, St w.heap.size w w' g bm [(nA, e)] (upd E0 e (.str ⟨#[97, 98, 99, 100, 101]⟩))) := Lib.hid (fun w1 g bm h => by
    have := sDefine nA ⟨#[97, 98, 99, 100, 101]⟩ nA_size (by decide) h
    rw [df_first _ _ nA_ok tAbcde] at this
    exact this.mono fun _ _ ⟨a, _, c⟩ => ⟨a, put_first (c rfl)⟩)
  have H3 : Hid (∀ (w1 : World) g bm e, St w.heap.size w w1 g bm [(nA, e)] (upd E0 e (.str ⟨#[97, 98, 99, 100, 101]⟩)) → Calls Tryz.prog 15 #[.pointer (some ⟨g, 0, none⟩), .string ⟨#[97]⟩, .int .i64 1, .int .i64 (-2)] w1 fun x w' => x = .returned (.int .i64 0) ∧
      St w.heap.size w w' g bm [(nA, e)] (upd (upd E0 e (.str ⟨#[97, 98, 99, 100, 101]⟩)) e (.str ⟨#[98, 99, 100]⟩))) := Lib.hid (fun w1 g bm e h => by
    have := sPart nA nA_size 1 (-2) (by decide) (by decide) h
    rw [show fdE [(nA, e)] nA = 0 by unfold fdE; rw [has_one]; rfl, get_one, upd_at, ptAbcde] at this
    exact this.mono fun _ _ ⟨a, _, c⟩ => ⟨a, c (has_one _ _)⟩)
  have H4 : Hid (∀ (w1 : World) g bm e, St w.heap.size w w1 g bm [(nA, e)] (upd (upd E0 e (.str ⟨#[97, 98, 99, 100, 101]⟩)) e (.str ⟨#[98, 99, 100]⟩)) → Calls Tryz.prog 16 #[.pointer (some ⟨g, 0, none⟩), .string ⟨#[97]⟩] w1 fun x w' => x = .returned (.tuple #[.string ⟨#[98, 99, 100]⟩, .int .i64 0]) ∧ w1 = w') := Lib.hid (fun w1 g bm e h => by
    have := sTxt nA nA_size h
    rw [show txV [(nA, e)] (upd (upd E0 e (.str ⟨#[97, 98, 99, 100, 101]⟩)) e (.str ⟨#[98, 99, 100]⟩)) nA = .tuple #[.string ⟨#[98, 99, 100]⟩, .int .i64 0] by unfold txV; rw [has_one, get_one, upd_at]; rfl] at this
    exact this)
  go_enter Tryz.func6, Tryz.ntmps6
  go_wp2_with (first
    | (go_at_call 7; refine H1.out.mono ?_; rintro e w1 ⟨g, bm, rfl, hk1⟩; have K1 := Lib.hid hk1; clear hk1)
    | (go_at_call 14; refine (H2.out _ _ _ K1.out).mono ?_; rintro e w2 ⟨rfl, e, hk2⟩; have K2 := Lib.hid hk2; clear hk2)
    | (go_at_call 15; refine (H3.out _ _ _ _ K2.out).mono ?_; rintro e w3 ⟨rfl, hk3⟩; have K3 := Lib.hid hk3; clear hk3)
    | (go_at_call 16; refine (H4.out _ _ _ _ K3.out).mono ?_; rintro e w4 ⟨rfl, rfl⟩))
  go_ret
  exact ⟨rfl, K3.out.out⟩
end Go.Proofs.YtbedddgfijpbcaaGreat
