/- Both stores side by side, behind a deed. -/
import Derived.Test.YtbedddgfijpbcaaGreatTf
import Derived.Test.YtbedddgfijpbcaaGreatTh
namespace Go.Proofs.YtbedddgfijpbcaaGreat
open Go.RowKit Go.Maps Go.WideMaps

/-! ### what a deed may change -/
def okC (L : List Ent) : Chg → Prop
  | .put n _ => fullB L n = false
  | .ren n _ => hasB L n = true
  | .ali _ n => hasB L n = true
  | _ => True
section
variable {L : List Ent} {E : Nat → En} {s t : ByteArray} {ls : List Ln}
theorem okC_or {pe : Int} {c : Chg} (h : pe = 0 → okC L c) : okC L (orSame pe c) := by
  unfold orSame
  by_cases e : pe = 0
  · rw [if_pos e]; exact h e
  · rw [if_neg e]; trivial
theorem ok_ite {p : Prop} [Decidable p] {a b : Chg} (h1 : okC L a) (h2 : okC L b) : okC L (if p then a else b) := by split <;> assumption
theorem putE_0 (h : putE L s = 0) : fullB L s = false := by
  unfold putE at h
  cases hf : fullB L s
  · rfl
  · rw [hf] at h; cases h
theorem if_0 {k : Int} {p : Prop} [Decidable p] {e : Int} (h : (if p then k else e) = 0) (hk : k ≠ 0) : e = 0 := by
  by_cases hp : p
  · rw [if_pos hp] at h; exact absurd h hk
  · rw [if_neg hp] at h; exact h
theorem chk_if {b : Bool} {e : Int} (h : (if chk b s = 0 then e else chk b s) = 0) : e = 0 := by
  by_cases hp : chk b s = 0
  · rw [if_pos hp] at h; exact h
  · rw [if_neg hp] at h; exact absurd h hp
theorem fdE_0 (h : fdE L s = 0) : hasB L s = true := by
  unfold fdE at h
  cases hh : hasB L s
  · rw [hh] at h; cases h
  · rfl
theorem full_has (h : hasB L s = true) : fullB L s = false := by unfold fullB; rw [h]; rfl
theorem doC_ok (L : List Ent) (E : Nat → En) (d : Dd) : okC L (doC L E d) := by
  unfold doC
  refine ok_ite (okC_or fun h => putE_0 (chk_if h)) (ok_ite (okC_or fun h => putE_0 (if_0 (chk_if h) (by decide))) (ok_ite (okC_or fun h => putE_0 (if_0 (chk_if h) (by decide))) (ok_ite (okC_or fun h => putE_0 (if_0 (chk_if h) (by decide))) (ok_ite (okC_or fun _ => trivial) (ok_ite (okC_or fun h => ?_) (ok_ite (okC_or fun h => ?_) (ok_ite (okC_or fun h => full_has (fdE_0 h)) (ok_ite (okC_or fun h => full_has (fdE_0 h)) trivial))))))))
  · unfold rnE at h
    show hasB L d.name = true
    cases hh : hasB L d.name
    · rw [hh] at h; cases h
    · rfl
  · unfold alE at h
    show hasB L d.other = true
    cases hh : hasB L d.other
    · rw [hh] at h; cases h
    · rfl
end
section
variable {U F : Nat → Prop} {R : Nat → Option Nat} {w w' : World} {g bm : Nat} {L M : List Ent} {E : Nat → En} {es : List En} {c : Chg}
/-- Behind a deed the code's store is like the document's behind it. -/
theorem done_sim (h : StAt U F R w g bm L E) (hS : Sim L E M es) (hok : okC L c) (hd : Done U F g bm w w' L E c) :
    ∃ U' F' R' L' E', StAt U' F' R' w' g bm L' E' ∧ Sim L' E' (docM M es c) (docZ M es c) ∧ Turn U w w' ∧ (∀ i, U' i → U i ∨ w.heap.size ≤ i) ∧ (∀ i, F' i → F i ∨ w.heap.size ≤ i) := by
  cases c with
  | same => exact ⟨U, F, R, L, E, h.below hd, hS, Turn.of_below hd, fun _ h => .inl h, fun _ h => .inl h⟩
  | put n en =>
    obtain ⟨e', U', F', R', h1, h2, h3, h4, h5, h6⟩ := hd
    refine ⟨U', F', R', _, _, h1, ?_, h2, h3, h4⟩
    show Sim (putR L n e') (upd E e' en) (ptM M es n) (ptZ M es n en)
    unfold ptM ptZ
    cases hh : hasB L n
    · have hm : hasB M n = false := by rw [← hS.has]; exact hh
      have hlen : M.length < 500 := by
        have hok : fullB L n = false := hok
        unfold fullB at hok
        rw [hh, hS.len] at hok
        have : ¬ 500 ≤ M.length := by simpa using hok
        omega
      rw [hm]
      simp only [Bool.false_eq_true, if_false, if_pos hlen]
      have h6 := h6 hh
      exact hS.putNew hh en (fun u hu e => by
        have hlt : @LT.lt Nat _ (getR L u) w.heap.size := h.ids _ (mem_get hu)
        exact absurd (Nat.le_trans h6 (Nat.le_of_eq e.symm)) (Nat.not_le.2 hlt))
    · have hm : hasB M n = true := by rw [← hS.has]; exact hh
      rw [hm, h5 hh, put_same hh]
      exact hS.putHas hh en
  | del n =>
    obtain ⟨R', h1, h2⟩ := hd
    exact ⟨U, F, R', _, E, h1, hS.del n, h2, fun _ h => .inl h, fun _ h => .inl h⟩
  | ren n t =>
    obtain ⟨R', h1, h2⟩ := hd
    exact ⟨U, F, R', _, E, h1, hS.ren hok t, h2, fun _ h => .inl h, fun _ h => .inl h⟩
  | ali t n =>
    obtain ⟨R', h1, h2⟩ := hd
    exact ⟨U, F, R', _, E, h1, hS.ali hok t, h2, fun _ h => .inl h, fun _ h => .inl h⟩
end
/-! ### both -/
/-- The blocks of the one and of the other. -/
structure Aprt (b g : Nat) (U F U2 K2 : Nat → Prop) : Prop where
  u : ∀ i, U i → b ≤ i ∧ ¬ U2 i ∧ ¬ K2 i
  v : ∀ i, U2 i → b ≤ i ∧ ¬ F i ∧ i ≠ g
def Both (b : Nat) (w0 w : World) (g bm x n : Nat) : Prop :=
  ∃ U F R L E U2 K2 M es, StAt U F R w g bm L E ∧ RSt U2 K2 w x M es ∧ Sim L E M es ∧ es.length ≤ n ∧ Below b w0 w ∧ b ≤ w.heap.size ∧ Aprt b g U F U2 K2
/-- The code has done a deed, the document not yet. -/
def Midw (b : Nat) (w0 w : World) (g bm x n : Nat) (d : Dd) (k : Int) : Prop :=
  ∃ U F R L E U2 K2 M es, StAt U F R w g bm L E ∧ RSt U2 K2 w x M es ∧ k = doE M (eF es) d ∧ Sim L E (docM M es (doC M (eF es) d)) (docZ M es (doC M (eF es) d)) ∧ es.length ≤ n ∧ Below b w0 w ∧ b ≤ w.heap.size ∧ Aprt b g U F U2 K2
section
variable {b : Nat} {w0 w w' : World} {g bm x n : Nat}
theorem Both.out (h : Both b w0 w g bm x n) : Below b w0 w ∧ b ≤ w.heap.size := by
  obtain ⟨U, F, R, L, E, U2, K2, M, es, h1, h2, h3, h4, h5, h6, h7⟩ := h
  exact ⟨h5, h6⟩
theorem Midw.out {d : Dd} {k : Int} (h : Midw b w0 w g bm x n d k) : Below b w0 w ∧ b ≤ w.heap.size := by
  obtain ⟨U, F, R, L, E, U2, K2, M, es, h1, h2, h3, h4, h5, h6, h7, h8⟩ := h
  exact ⟨h6, h7⟩
theorem Both.below (h : Both b w0 w g bm x n) (hb : Below w.heap.size w w') : Both b w0 w' g bm x n := by
  obtain ⟨U, F, R, L, E, U2, K2, M, es, h1, h2, h3, h4, h5, h6, h7⟩ := h
  exact ⟨U, F, R, L, E, U2, K2, M, es, h1.below hb, h2.below hb, h3, h4, h5.trans (hb.mono h6), Nat.le_trans h6 hb.size, h7⟩
theorem bDo (d : Dd) (K0 : Nat → Prop) (v : Value) (hv : LnsAt K0 w v d.lines) (hK : ∀ k, K0 k → k < w.heap.size) (hz1 : d.name.size ≤ 140737488351232) (hz2 : d.other.size ≤ 140737488351232) (hz3 : d.text.size ≤ 140737488351232) (hz4 : d.lines.length ≤ 10000000000000)
    (hwa : -9223372036854775808 ≤ d.a ∧ d.a ≤ 9223372036854775807) (hwb : -9223372036854775808 ≤ d.b ∧ d.b ≤ 9223372036854775807) (h : Both b w0 w g bm x n) :
    Calls Tryz.prog 9 #[.pointer (some ⟨g, 0, none⟩), ddV d v] w fun r w' => ∃ k, r = .returned (.int .i64 k) ∧ Midw b w0 w' g bm x n d k := by
  obtain ⟨U, F, R, L, E, U2, K2, M, es, h1, h2, h3, h4, h5, h6, h7⟩ := h
  refine (cDo d K0 v hv hK hz1 hz2 hz3 hz4 hwa hwb h1).mono fun r w' ⟨r1, r2⟩ => ⟨_, r1, ?_⟩
  obtain ⟨U', F', R', L', E', q1, q2, q3, q4, q5⟩ := done_sim h1 h3 (doC_ok L E d) r2
  rw [h3.doC d] at q2
  have hs := h2.sets
  refine ⟨U', F', R', L', E', U2, K2, M, es, q1, h2.turn q3 (fun i hi e => (h7.u i e).2.1 hi) (fun i hi e => (h7.u i e).2.2 hi), h3.doE d, q2, h4, q3.below h5 h6 (fun i hi => (h7.u i hi).1), Nat.le_trans h6 q3.size, ⟨fun i hi => ?_, fun i hi => ⟨(h7.v i hi).1, fun hf => ?_, (h7.v i hi).2.2⟩⟩⟩
  · rcases q4 i hi with h8 | h8
    · exact h7.u i h8
    · exact ⟨Nat.le_trans h6 h8, fun e => by have := hs.2.1 i e; omega, fun e => by have := hs.2.2 i e; omega⟩
  · rcases q5 i hf with h8 | h8
    · exact (h7.v i hi).2.1 h8
    · have := hs.2.1 i hi; omega
theorem bTold (d : Dd) (k : Int) (K0 : Nat → Prop) (v : Value) (hv : LnsAt K0 w v d.lines) (hK : ∀ k, K0 k → k < w.heap.size) (hz1 : d.name.size ≤ 140737488351232) (hz2 : d.other.size ≤ 140737488351232) (hz3 : d.text.size ≤ 140737488351232) (hz4 : d.lines.length ≤ 6000)
    (hwa : -9223372036854775808 ≤ d.a ∧ d.a ≤ 9223372036854775807) (hwb : -9223372036854775808 ≤ d.b ∧ d.b ≤ 9223372036854775807) (hn : n ≤ 1000000) (h : Midw b w0 w g bm x n d k) :
    Calls Tryz.prog 10 #[.pointer (some ⟨x, 0, none⟩), ddV d v] w fun r w' => r = .returned (.int .i64 k) ∧ Both b w0 w' g bm x (n + 1) := by
  obtain ⟨U, F, R, L, E, U2, K2, M, es, h1, h2, h3, h4, h5, h6, h7, h8⟩ := h
  rw [h3]
  refine (nTold d K0 v hv hK hz1 hz2 hz3 hz4 hwa hwb (Nat.le_trans h5 hn) h2).mono fun r w' ⟨r1, r2⟩ => ⟨r1, ?_⟩
  obtain ⟨U2', K2', q1, q2, q3, q4⟩ := r2
  refine ⟨U, F, R, L, E, U2', K2', _, _, h1.turn q2 (fun i hi e => (h8.u i hi).2.1 e) (fun i hi e => (h8.v i e).2.1 hi) (fun e => (h8.v g e).2.2 rfl), q1, h4, Nat.le_trans (docZ_len M es _) (by omega), q2.below h6 h7 (fun i hi => (h8.v i hi).1), Nat.le_trans h7 q2.size, ⟨fun i hi => ⟨(h8.u i hi).1, fun e => ?_, fun e => ?_⟩, fun i hi => ?_⟩⟩
  · rcases q3 i e with h9 | h9
    · exact (h8.u i hi).2.1 h9
    · have := h1.ul i hi; omega
  · rcases q4 i e with h9 | h9
    · exact (h8.u i hi).2.2 h9
    · have := h1.ul i hi; omega
  · rcases q3 i hi with h9 | h9
    · exact h8.v i h9
    · exact ⟨Nat.le_trans h7 h9, fun e => by have := h1.fl i e; omega, fun e => by have := h1.blk.lt; omega⟩
theorem bothAlike (s : ByteArray) (hs : s.size ≤ maxLen) (h : Both b w0 w g bm x n) :
    Calls Tryz.prog 11 #[.pointer (some ⟨g, 0, none⟩), .pointer (some ⟨x, 0, none⟩), .string s] w fun r w' => r = .returned (.bool true) ∧ Both b w0 w' g bm x n := by
  have h' := h
  obtain ⟨U, F, R, L, E, U2, K2, M, es, h1, h2, h3, h4, h5, h6, h7⟩ := h
  exact (bAlike s hs h1 h2 h3).mono fun r w' ⟨q1, q2⟩ => ⟨q1, h'.below q2⟩
/-- Two new stores. -/
theorem both_new (h : St b w0 w g bm [] E0) : Both b w0 (w.alloc (.cells #[.bool true, .slice none 0 0, .slice none 0 0] 50)) g bm w.heap.size 0 := by
  obtain ⟨U, F, R, h1, h2, h3, h4, h5⟩ := h
  have hb : Below w.heap.size w (w.alloc (.cells #[.bool true, .slice none 0 0, .slice none 0 0] 50)) := (Below.refl _ _).alloc (Nat.le_refl _) _
  have hbk := Blk.new w 50 #[.bool true, .slice none 0 0, .slice none 0 0]
  refine ⟨U, F, R, [], E0, (· = w.heap.size), fun _ => False, [], [], h1.below hb, ⟨[], .slice none 0 0, .slice none 0 0, ⟨hbk, World.ownsRow_nil _ _ _ _, World.ownsRow_nil _ _ _ _, fun z hz => (by cases hz), List.Pairwise.nil, Nat.zero_le _, fun p hp => (by cases hp), fun p hp => (by cases hp), rfl, fun g hg => (by cases hg), fun g hg => (by cases hg), fun _ _ h => h, fun i hi => (by have := hbk.lt; omega), fun _ h => h.elim⟩, rfl⟩,
    ⟨List.Pairwise.nil, List.Pairwise.nil, fun _ => rfl, fun s hs => (by cases hs), fun s t hs => (by cases hs), fun s hs => (by cases hs)⟩, Nat.le_refl _, h4.trans (hb.mono h5), Nat.le_trans h5 hb.size, ⟨fun i hi => ⟨h2 i hi, fun e => ?_, id⟩, fun i hi => ⟨by omega, fun e => ?_, fun e => ?_⟩⟩⟩
  · have := h1.ul i hi; omega
  · have := h1.fl i e; omega
  · have := h1.blk.lt; omega
end
end Go.Proofs.YtbedddgfijpbcaaGreat
