/- Walk: the statement on aliases. -/
import Derived.Test.YtbedddgfijpbcaaBa
import Derived.Test.YtbedddgfijpbcaaBb
import Derived.Test.YtbedddgfijpbcaaAa
namespace Go.Proofs.Ytbedddgfijpbcaa
open Go.RowKit Go.Maps Go.WideMaps

/-- Names a and b lead to one entry. -/
def AL (b : Nat) (w0 w : World) (g bm : Nat) : Prop := ∃ L E, St b w0 w g bm L E ∧ hasB L nA = true ∧ hasB L nB = true ∧ getR L nA = getR L nB
section
variable {b : Nat} {w0 w : World} {g bm : Nat}
theorem AL.below {w' : World} (h : AL b w0 w g bm) (hb : Below w.heap.size w w') : AL b w0 w' g bm := by
  obtain ⟨L, E, h1, h2⟩ := h
  exact ⟨L, E, h1.below hb, h2⟩
theorem AL.out (h : AL b w0 w g bm) : Below b w0 w := by
  obtain ⟨L, E, h1, _⟩ := h
  exact h1.out
theorem alAlias {t : ByteArray} {e : Nat} (h : St b w0 w g bm [(nA, e)] (upd E0 e (.str t))) :
    Calls Try.prog 20 #[.pointer (some ⟨g, 0, none⟩), .string nB, .string nA] w fun x w' => x = .returned (.int .i64 0) ∧ AL b w0 w' g bm := by
  have hb : hasB [(nA, e)] nB = false := by
    have : nlt nA nB = true := by decide
    rw [has_lt this]; rfl
  have he : alE [(nA, e)] nB nA = 0 := by
    unfold alE fullB
    rw [has_one, nB_ok, if_pos rfl, if_pos rfl, if_neg (by decide), hb]; rfl
  have := sAlias nB nA (by decide) nA_size h
  rw [he] at this
  refine this.mono fun x w' ⟨a, _, c⟩ => ⟨a, _, _, c rfl, ?_, ?_, ?_⟩
  · rw [has_put h.srt, has_one]; simp
  · rw [has_put h.srt]; simp
  · rw [get_put_at h.srt, get_put_ne h.srt (by decide)]
theorem alDo (d : Dd) (K : Nat → Prop) (v : Value) (hn : d.name = nA ∨ d.name = nB) (hw : 0 ≤ d.what ∧ d.what ≤ 3 ∨ 7 ≤ d.what ∧ d.what ≤ 8) (hv : LnsAt K w v d.lines) (hK : ∀ k, K k → k < w.heap.size) (hz2 : d.other.size ≤ 140737488351232) (hz3 : d.text.size ≤ 140737488351232) (hz4 : d.lines.length ≤ 10000000000000)
    (hwa : -9223372036854775808 ≤ d.a ∧ d.a ≤ 9223372036854775807) (hwb : -9223372036854775808 ≤ d.b ∧ d.b ≤ 9223372036854775807) (h : AL b w0 w g bm) :
    Calls Try.prog 21 #[.pointer (some ⟨g, 0, none⟩), ddV d v] w fun x w' => (∃ k, x = .returned (.int .i64 k)) ∧ AL b w0 w' g bm := by
  obtain ⟨L, E, ⟨U, F, R, q1, q2, q3, q4, q5⟩, h2, h3, h4⟩ := h
  have hz1 : d.name.size ≤ 140737488351232 := by
    rcases hn with e | e <;> rw [e] <;> decide
  have hh : hasB L d.name = true := by
    rcases hn with e | e <;> rw [e] <;> assumption
  refine (cDo d K v hv hK hz1 hz2 hz3 hz4 hwa hwb q1).mono fun x w' ⟨r1, r2⟩ => ⟨⟨_, r1⟩, ?_⟩
  have key : ∀ (pe : Int) (en : En), Done U F g bm w w' L E (orSame pe (.put d.name en)) → AL b w0 w' g bm := fun pe en hd => by
    unfold orSame at hd
    by_cases hp : pe = 0
    · rw [if_pos hp] at hd
      have := (PutTo.st q1 q2 q3 q4 q5 hd).old hh
      exact ⟨L, _, this, h2, h3, h4⟩
    · rw [if_neg hp] at hd
      exact ⟨L, E, St.below ⟨U, F, R, q1, q2, q3, q4, q5⟩ hd, h2, h3, h4⟩
  unfold doC at r2
  by_cases e0 : d.what = 0
  · rw [if_pos e0] at r2; exact key _ _ r2
  rw [if_neg e0] at r2
  by_cases e1 : d.what = 1
  · rw [if_pos e1] at r2; exact key _ _ r2
  rw [if_neg e1] at r2
  by_cases e2 : d.what = 2
  · rw [if_pos e2] at r2; exact key _ _ r2
  rw [if_neg e2] at r2
  by_cases e3 : d.what = 3
  · rw [if_pos e3] at r2; exact key _ _ r2
  rw [if_neg e3, if_neg (by omega), if_neg (by omega), if_neg (by omega)] at r2
  by_cases e7 : d.what = 7
  · rw [if_pos e7] at r2; exact key _ _ r2
  rw [if_neg e7] at r2
  by_cases e8 : d.what = 8
  · rw [if_pos e8] at r2; exact key _ _ r2
  omega
/-- Lines of the one name and of the other are the same. -/
def alLs (L : List Ent) (E : Nat → En) : List Ln := (E (getR L nA)).lines
/-- Names a and b lead to one entry, whose lines are ls, and whose kind is k. -/
def ALn (b : Nat) (w0 w : World) (g bm : Nat) (ls : List Ln) (k : Int) : Prop := ∃ L E, St b w0 w g bm L E ∧ hasB L nA = true ∧ hasB L nB = true ∧ getR L nA = getR L nB ∧ (E (getR L nA)).lines = ls ∧ (E (getR L nA)).kind = k ∧ k ≠ 0
theorem AL.ln (h : AL b w0 w g bm) : ∃ ls k, ALn b w0 w g bm ls k := by
  obtain ⟨L, E, h1, h2, h3, h4⟩ := h
  refine ⟨_, _, L, E, h1, h2, h3, h4, rfl, rfl, ?_⟩
  cases E (getR L nA) with
  | str t => exact (by decide : (1 : Int) ≠ 0)
  | mac ls => exact (by decide : (2 : Int) ≠ 0)
theorem ALn.al {ls : List Ln} {k : Int} (h : ALn b w0 w g bm ls k) : AL b w0 w g bm := by
  obtain ⟨L, E, h1, h2, h3, h4, _⟩ := h
  exact ⟨L, E, h1, h2, h3, h4⟩
theorem ALn.below {w' : World} {ls : List Ln} {k : Int} (h : ALn b w0 w g bm ls k) (hb : Below w.heap.size w w') : ALn b w0 w' g bm ls k := by
  obtain ⟨L, E, h1, h2⟩ := h
  exact ⟨L, E, h1.below hb, h2⟩
theorem alLinesA {ls : List Ln} {k : Int} (h : ALn b w0 w g bm ls k) :
    Calls Try.prog 17 #[.pointer (some ⟨g, 0, none⟩), .string nA] w fun x w' => ∃ A n c, x = .returned (.tuple #[.slice A n c, .int .i64 0]) ∧ LnsAt (fun k => w.heap.size ≤ k ∧ k < w'.heap.size) w' (.slice A n c) ls ∧ ALn b w0 w' g bm ls k := by
  obtain ⟨L, E, h1, h2, h3, h4, h5, h6⟩ := h
  have := sLines nA nA_size h1
  rw [show fdE L nA = 0 by unfold fdE; rw [h2]; rfl, show lnOf L E nA = ls by unfold lnOf; rw [h2]; exact h5] at this
  exact this.mono fun _ w' ⟨A, n, c, q1, q2, q3⟩ => ⟨A, n, c, q1, q2, L, E, q3, h2, h3, h4, h5, h6⟩
theorem alLinesB {ls : List Ln} {k : Int} (h : ALn b w0 w g bm ls k) :
    Calls Try.prog 17 #[.pointer (some ⟨g, 0, none⟩), .string nB] w fun x w' => ∃ A n c, x = .returned (.tuple #[.slice A n c, .int .i64 0]) ∧ LnsAt (fun k => w.heap.size ≤ k ∧ k < w'.heap.size) w' (.slice A n c) ls ∧ ALn b w0 w' g bm ls k ∧ Below w.heap.size w w' := by
  obtain ⟨L, E, ⟨U, F, R, q1, q2, q3, q4, q5⟩, h2, h3, h4, h5, h6⟩ := h
  have := cLines nB (by decide) q1
  rw [show fdE L nB = 0 by unfold fdE; rw [h3]; rfl, show lnOf L E nB = ls by unfold lnOf; rw [h3, ← h4]; exact h5] at this
  exact this.mono fun _ w' ⟨A, n, c, r1, r2, r3⟩ => ⟨A, n, c, r1, r2, ⟨L, E, St.below ⟨U, F, R, q1, q2, q3, q4, q5⟩ r3, h2, h3, h4, h5, h6⟩, r3⟩
theorem alKindA {ls : List Ln} {k : Int} (h : ALn b w0 w g bm ls k) :
    Calls Try.prog 22 #[.pointer (some ⟨g, 0, none⟩), .string nA] w fun x w' => x = .returned (.int .i64 k) ∧ w = w' := by
  obtain ⟨L, E, ⟨U, F, R, q1, _⟩, h2, h3, h4, h5, h6, _⟩ := h
  have := cKind nA nA_size q1
  rwa [show kdI L E nA = k by unfold kdI; rw [h2]; exact h6] at this
theorem alKindB {ls : List Ln} {k : Int} (h : ALn b w0 w g bm ls k) :
    Calls Try.prog 22 #[.pointer (some ⟨g, 0, none⟩), .string nB] w fun x w' => x = .returned (.int .i64 k) ∧ w = w' := by
  obtain ⟨L, E, ⟨U, F, R, q1, _⟩, h2, h3, h4, h5, h6, _⟩ := h
  have := cKind nB (by decide) q1
  rwa [show kdI L E nB = k by unfold kdI; rw [h3, ← h4]; exact h6] at this
/-- Name b leads to an entry, and there is no name a. -/
def BL (b : Nat) (w0 w : World) (g bm : Nat) (k : Int) : Prop := ∃ L E, St b w0 w g bm L E ∧ hasB L nA = false ∧ kdI L E nB = k ∧ k ≠ 0
theorem alRemove {ls : List Ln} {k : Int} (h : ALn b w0 w g bm ls k) :
    Calls Try.prog 23 #[.pointer (some ⟨g, 0, none⟩), .string nA] w fun x w' => x = .returned (.int .i64 0) ∧ BL b w0 w' g bm k := by
  obtain ⟨L, E, ⟨U, F, R, q1, q2, q3, q4, q5⟩, h2, h3, h4, h5, h6, h7⟩ := h
  have := cRemove nA nA_size q1
  rw [nA_ok] at this
  refine this.mono fun _ w' ⟨r1, _, r2⟩ => ⟨r1, _, E, St.turn_ (r2 rfl).1 (r2 rfl).2 q2 q3 q4 q5, ?_, ?_, h7⟩
  · rw [has_del q1.srt]; simp
  · unfold kdI
    rw [has_del q1.srt, h3, get_del_ne q1.srt (by decide), ← h4]
    exact h6
theorem blKindB {k : Int} (h : BL b w0 w g bm k) :
    Calls Try.prog 22 #[.pointer (some ⟨g, 0, none⟩), .string nB] w fun x w' => x = .returned (.int .i64 k) ∧ w = w' := by
  obtain ⟨L, E, ⟨U, F, R, q1, _⟩, h2, h3, _⟩ := h
  have := cKind nB (by decide) q1
  rwa [h3] at this
theorem blKindA {k : Int} (h : BL b w0 w g bm k) :
    Calls Try.prog 22 #[.pointer (some ⟨g, 0, none⟩), .string nA] w fun x w' => x = .returned (.int .i64 0) ∧ w = w' := by
  obtain ⟨L, E, ⟨U, F, R, q1, _⟩, h2, h3, _⟩ := h
  have := cKind nA nA_size q1
  rwa [show kdI L E nA = 0 by unfold kdI; rw [h2]; rfl] at this
theorem BL.out {k : Int} (h : BL b w0 w g bm k) : Below b w0 w := by
  obtain ⟨L, E, h1, _⟩ := h
  exact h1.out
end
theorem ddR.stay {K K' : Nat → Prop} {w w' : World} {g o : Nat} {d : Dd} (ha : K g) (h : ddR K w g o d) (hw : Kept K w w') (hK : ∀ i, K i → K' i) : ddR K' w' g o d := by
  obtain ⟨v, hv, hn⟩ := h.c4
  exact ⟨hw.cell ha h.c0, hw.cell ha h.c1, hw.cell ha h.c2, hw.cell ha h.c3, ⟨v, hw.cell ha hv, hn.stay hw hK⟩, hw.cell ha h.c5, hw.cell ha h.c6, h.z1, h.z2, h.z3, h.z4, h.wa, h.wb, h.ww⟩
end Go.Proofs.Ytbedddgfijpbcaa
