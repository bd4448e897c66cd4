/- Walks: whether a line is one, whether all are. -/
import Derived.Test.YtpgkhhchpojlaaaGreatDoorVf
import Derived.Test.YtpgkhhchpojlaaaGreatDoorEd
namespace Go.Proofs.YtpgkhhchpojlaaaGreatDoor.Sto
open Go.RowKit

def motB (n : Int) : Bool := decide (-1000000 ≤ n) && decide (n ≤ 1000000)
/-- Whether the fields are a line's. -/
def lnF (t : ByteArray) (m : Bool) (u d : Int) (n : Nat) : Bool :=
  if m then decide (t = ⟨#[]⟩) && motB u && motB d && decide (n ≤ 2000) else textB t && decide (u = 0) && decide (d = 0) && decide (n = 0)
def lnB (l : Ln) : Bool := lnF l.text l.made l.up l.down l.boxes.length
def lnsB (ls : List Ln) : Bool := ls.all lnB
/-- validMotion. -/
theorem cMot (n : Int) (w : World) : Calls Tryz.prog 97 #[.int .i64 n] w fun e w' => e = .returned (.bool (motB n)) ∧ w = w' := by
  by_cases h1 : -1000000 ≤ n
  · have e1 : motB n = decide (n ≤ 1000000) := by unfold motB; rw [decide_eq_true h1]; rfl
    rw [e1]
    clear e1
    go_enter Tryz.func97, Tryz.ntmps97
    go_wp2_with fail
    go_ret
    exact ⟨rfl, rfl⟩
  · have e1 : motB n = false := by unfold motB; rw [decide_eq_false h1]; rfl
    rw [e1]
    clear e1
    go_enter Tryz.func97, Tryz.ntmps97
    go_wp2_with fail
    go_ret
    exact ⟨rfl, rfl⟩
/-- validLine. -/
theorem cLine (t : ByteArray) (m : Bool) (u d : Int) (A : Option Addr) (n c : Nat) (ht : t.size ≤ maxLen) (hn : n ≤ maxLen) (w : World) :
    Calls Tryz.prog 88 #[.agg #[.string t, .bool m, .int .i64 u, .int .i64 d, .slice A n c]] w fun e w' => e = .returned (.bool (lnF t m u d n)) ∧ Below w.heap.size w w' := by
  unfold maxLen at hn
  have hB0 := (Below.refl w.heap.size w).alloc (Nat.le_refl _) (.cells #[.string t, .bool m, .int .i64 u, .int .i64 d, .slice A n c] 31)
  have hz := Blk.new w 31 #[.string t, .bool m, .int .i64 u, .int .i64 d, .slice A n c]
  have z0 := hz.cell 0
  have z1 := hz.cell 1
  have z2 := hz.cell 2
  have z3 := hz.cell 3
  have z4 := hz.cell 4
  simp only [List.getElem?_toArray, List.getElem?_cons_zero, List.getElem?_cons_succ] at z0 z1 z2 z3 z4
  have HB := Lib.hid hB0
  clear hz hB0
  have HT := Lib.hid (fun w => cText t ht w)
  have HM := Lib.hid (fun n w => cMot n w)
  cases m
  · have e1 : lnF t false u d n = (textB t && decide (u = 0) && decide (d = 0) && decide (n = 0)) := rfl
    rw [e1]
    clear e1
    generalize textB t = b at HT ⊢
    have e3 : decide (n = 0) = decide ((n : Int) = 0) := decide_eq_decide.2 (by omega)
    rw [e3]
    have q1 : (u == 0) = decide (u = 0) := by rw [Bool.eq_iff_iff]; simp
    have q2 : (d == 0) = decide (d = 0) := by rw [Bool.eq_iff_iff]; simp
    have q3 : ((n : Int) == 0) = decide ((n : Int) = 0) := by rw [Bool.eq_iff_iff]; simp
    rw [← q1, ← q2, ← q3]
    clear e3 q1 q2 q3
    cases b <;> cases h1 : (u == 0) <;> cases h2 : (d == 0) <;> cases h3 : ((n : Int) == 0)
    all_goals
      go_enter Tryz.func88, Tryz.ntmps88
      go_wp2_with (go_at_call 96; refine (HT.out _).mono ?_; rintro e w1 ⟨rfl, rfl⟩)
      go_ret
      exact ⟨rfl, HB.out⟩
  · have e1 : lnF t true u d n = (decide (t = ⟨#[]⟩) && motB u && motB d && decide (n ≤ 2000)) := rfl
    rw [e1]
    clear e1
    have e3 : decide (n ≤ 2000) = decide ((n : Int) ≤ 2000) := decide_eq_decide.2 (by omega)
    rw [e3]
    have H1 := Lib.hid (fun w => cMot u w)
    have H2 := Lib.hid (fun w => cMot d w)
    clear e3 HM HT
    by_cases h0 : t.size = 0
    · have e : t = ⟨#[]⟩ := by
        obtain ⟨⟨l⟩⟩ := t
        have : l = [] := List.length_eq_zero_iff.1 h0
        subst this; rfl
      subst e
      rw [decide_eq_true (rfl : (⟨#[]⟩ : ByteArray) = ⟨#[]⟩), Bool.true_and]
      generalize motB u = b1 at H1 ⊢
      generalize motB d = b2 at H2 ⊢
      cases b1 <;> cases b2 <;> by_cases h3 : (n : Int) ≤ 2000
      all_goals
        go_enter Tryz.func88, Tryz.ntmps88
        go_wp2_with (first
          | (go_at_call 97; with_reducible refine (H1.out _).mono ?_; rintro e w1 ⟨rfl, rfl⟩)
          | (go_at_call 97; with_reducible refine (H2.out _).mono ?_; rintro e w1 ⟨rfl, rfl⟩))
        go_ret
        exact ⟨by first | rfl | simp [h3], HB.out⟩
    · obtain ⟨he1, he2⟩ := toList_ne h0
      have e0 : decide (t = ⟨#[]⟩) = false := decide_eq_false (fun e => h0 (by rw [e]; rfl))
      rw [e0]
      simp only [Bool.false_and]
      clear e0
      go_enter Tryz.func88, Tryz.ntmps88
      go_wp2_with fail
      go_ret
      exact ⟨rfl, HB.out⟩
/-- validLines' function. -/
theorem cNotLine (t : ByteArray) (m : Bool) (u d : Int) (A : Option Addr) (n c : Nat) (ht : t.size ≤ maxLen) (hn : n ≤ maxLen) (w : World) :
    Calls Tryz.prog 87 #[.agg #[.string t, .bool m, .int .i64 u, .int .i64 d, .slice A n c]] w fun e w' => e = .returned (.bool (!lnF t m u d n)) ∧ Below w.heap.size w w' := by
  have hB0 := (Below.refl w.heap.size w).alloc (Nat.le_refl _) (.cells #[.string t, .bool m, .int .i64 u, .int .i64 d, .slice A n c] 31)
  have hz := Blk.new w 31 #[.string t, .bool m, .int .i64 u, .int .i64 d, .slice A n c]
  have z0 := hz.cell 0
  have z1 := hz.cell 1
  have z2 := hz.cell 2
  have z3 := hz.cell 3
  have z4 := hz.cell 4
  simp only [List.getElem?_toArray, List.getElem?_cons_zero, List.getElem?_cons_succ] at z0 z1 z2 z3 z4
  have HB := Lib.hid hB0
  have HL := Lib.hid (cLine t m u d A n c ht hn (w.alloc (.cells #[.string t, .bool m, .int .i64 u, .int .i64 d, .slice A n c] 31)))
  clear hz hB0
  generalize lnF t m u d n = b at HL ⊢
  go_enter Tryz.func87, Tryz.ntmps87
  go_wp2_with (go_at_call 88; refine HL.out.mono ?_; rintro e w1 ⟨rfl, hb1⟩)
  go_ret
  exact ⟨rfl, HB.out.trans (hb1.mono (by simp))⟩
theorem lns_no {ls : List Ln} {k : Nat} {l : Ln} (h : ls[k]? = some l) (hl : lnB l = false) : lnsB ls = false := by
  unfold lnsB
  rw [List.all_eq_false]
  exact ⟨l, List.mem_of_getElem? h, by simp [hl]⟩
theorem lns_yes {ls : List Ln} (h : ∀ (j : Nat) (l : Ln), ls[j]? = some l → lnB l = true) : lnsB ls = true := by
  unfold lnsB
  rw [List.all_eq_true]
  intro l hl
  obtain ⟨j, hj, rfl⟩ := List.getElem_of_mem hl
  exact h j _ (List.getElem?_eq_getElem hj)
/-- slices.IndexFunc, at validLines' function. -/
theorem cIndexF (K : Nat → Prop) (v : Value) (ls : List Ln) (w : World) (h : LnsAt K w v ls) (hK : ∀ i, K i → i < w.heap.size) :
    Calls Tryz.prog 95 #[v, .func (.func 87) #[] #[]] w fun e w' => (∃ k : Int, e = .returned (.int .i64 k) ∧ decide (0 ≤ k) = !lnsB ls) ∧ Below w.heap.size w w' := by
  obtain ⟨A, cap, rfl, hc1, hc2, hrd⟩ := h
  have HR := Lib.hid hrd
  have HK := Lib.hid hK
  clear hrd hK
  unfold maxLen at hc2
  go_enter Tryz.func95, Tryz.ntmps95
  go_wp2
  go_loopw [8] (fun v8 wr => ∃ k : Nat, k ≤ ls.length ∧ v8 = .int .i64 k ∧ (∀ (j : Nat) (l : Ln), j < k → ls[j]? = some l → lnB l = true) ∧ Below w.heap.size w wr) (fun v8 _ => ls.length - (intOf v8).toNat)
  case atStart => exact ⟨0, Nat.zero_le _, rfl, fun j l h => by omega, Below.refl _ _⟩
  case round =>
    obtain ⟨k, hk, rfl, hb, hB⟩ := hrel
    have HB := Lib.hid hb
    clear hb
    by_cases hlt : k < ls.length
    · obtain ⟨g, off, rfl, hKa, hra⟩ := HR.out (by omega)
      have hlk : ls[k]? = some ls[k] := List.getElem?_eq_getElem hlt
      have hr := (hra k _ hlk).stay (K' := K) hKa (Kept.of_below hB HK.out) (fun _ h => h)
      obtain ⟨vb, hvb, Ab, capb, rfl, hcb1, hcb2, _⟩ := hr.c4
      have c0 := hr.c0
      have c1 := hr.c1
      have c2 := hr.c2
      have c3 := hr.c3
      have hs0 : _ ≤ maxLen := Nat.le_trans hr.s0 (by decide)
      have HL := Lib.hid (fun w => cNotLine ls[k].text ls[k].made ls[k].up ls[k].down Ab ls[k].boxes.length capb hs0 (by omega) w)
      have hlb : lnF ls[k].text ls[k].made ls[k].up ls[k].down ls[k].boxes.length = lnB ls[k] := rfl
      rw [hlb] at HL
      clear hr hra hs0 hlb
      have HLK := Lib.hid hlk
      clear hlk
      generalize ls[k] = l at *
      cases hl : lnB l
      · rw [hl] at HL
        have HNo := Lib.hid (lns_no HLK.out hl)
        clear hl
        go_wp2_with (go_at_call 87; refine (HL.out _).mono ?_; rintro e w1 ⟨rfl, hb1⟩)
        go_ret
        exact ⟨⟨k, rfl, by rw [HNo.out]; simp⟩, hB.trans (hb1.mono hB.size)⟩
      · rw [hl] at HL
        have Hl := Lib.hid hl
        clear hl
        go_wp2_with (go_at_call 87; refine (HL.out _).mono ?_; rintro e w1 ⟨rfl, hb1⟩)
        go_roundw
        case rel => exact ⟨k + 1, by omega, by go_num, fun j l2 hj h2 => by
          by_cases e : j = k
          · subst e
            rw [HLK.out] at h2
            injection h2 with h2
            rw [← h2]; exact Hl.out
          · exact HB.out j l2 (by omega) h2, hB.trans (hb1.mono hB.size)⟩
        case measure => simp [intOf]; omega
    · have hyes := lns_yes (ls := ls) (fun j l hj => HB.out j l (by have := (List.getElem?_eq_some_iff.1 hj).1; omega) hj)
      have HY := Lib.hid hyes
      clear hyes
      go_wp2
      go_ret
      exact ⟨⟨-1, rfl, by rw [HY.out]; rfl⟩, hB⟩
/-- validLines. -/
theorem cLns (K : Nat → Prop) (v : Value) (ls : List Ln) (w : World) (h : LnsAt K w v ls) (hK : ∀ i, K i → i < w.heap.size) :
    Calls Tryz.prog 79 #[v] w fun e w' => e = .returned (.bool (lnsB ls)) ∧ Below w.heap.size w w' := by
  have H1 := Lib.hid (cIndexF K v ls w h hK)
  have H2 : Hid (Calls Tryz.prog 86 #[v, .func (.func 87) #[] #[]] w fun e w' => e = .returned (.bool (!lnsB ls)) ∧ Below w.heap.size w w') := by
    refine Lib.hid ?_
    clear h hK
    generalize lnsB ls = b at H1 ⊢
    go_enter Tryz.func86, Tryz.ntmps86
    go_wp2_with (go_at_call 95; refine H1.out.mono ?_; rintro e w1 ⟨⟨k, rfl, hk⟩, hb1⟩)
    go_ret
    exact ⟨rfl, hb1⟩
  clear H1 h hK
  generalize lnsB ls = b at H2 ⊢
  go_enter Tryz.func79, Tryz.ntmps79
  go_wp2_with (go_at_call 86; refine H2.out.mono ?_; rintro e w1 ⟨rfl, hb1⟩)
  go_ret
  exact ⟨ret_b (by simp), hb1⟩
end Go.Proofs.YtpgkhhchpojlaaaGreatDoor.Sto
