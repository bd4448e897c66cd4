/- Walks: the document's IsText, IsLine, AreLines. -/
import Derived.Test.YtpgkhhchpojlaaaGreatDoorEd
namespace Go.Proofs.YtpgkhhchpojlaaaGreatDoor
open Go.RowKit

/-- The document's IsText. -/
theorem nText (s : ByteArray) (hs : s.size ≤ maxLen) (w : World) :
    Calls Tryz.prog 83 #[.string s] w fun e w' => e = .returned (.bool (textB s)) ∧ w = w' := by
  unfold maxLen at hs
  go_enter Tryz.func83, Tryz.ntmps83
  go_wp2
  go_loop [3] (fun v3 => ∃ k : Nat, k ≤ s.size ∧ v3 = .int .i64 k ∧ ∀ (j : Nat) (hj : j < s.size), j < k → decide (s[j].toNat ≠ 10) = true) (fun v3 => s.size - (intOf v3).toNat)
  case atStart => exact ⟨0, Nat.zero_le _, rfl, fun j hj h => by omega⟩
  case round =>
    obtain ⟨k, hk, rfl, hb⟩ := hrel
    have HB := Lib.hid hb
    clear hb
    by_cases hlt : k < s.size
    · by_cases h3 : (s[k].toNat : Int) = 10
      · have hf : textB s = false := by
          unfold textB
          rw [noLf_all, allB_no k hlt (by
            have : s[k].toNat = 10 := by omega
            rw [this]; rfl)]; simp
        have hB : ((s[k].toNat : Int) == 10) = true := by simp [h3]
        clear h3
        go_wp2
        go_ret
        exact ⟨rfl, rfl⟩
      · have hf : decide (s[k].toNat ≠ 10) = true := by
          rw [decide_eq_true_eq]; omega
        have HF := Lib.hid hf
        have hB : ((s[k].toNat : Int) == 10) = false := by simp [h3]
        clear h3 hf
        go_wp2
        go_round
        case rel => exact ⟨k + 1, by omega, by go_num, fun j hj h => by
          by_cases e : j = k
          · subst e; exact HF.out
          · exact HB.out j hj (by omega)⟩
        case measure => simp [intOf]; omega
    · have hall : noLf s = true := by
        rw [noLf_all]
        exact allB_yes fun j hj => HB.out j hj (by omega)
      have hn : textB s = decide ((s.size : Int) ≤ 2000) := by
        unfold textB
        rw [hall, Bool.and_true]
        exact decide_eq_decide.2 (by omega)
      clear hall HB
      go_wp2
      go_ret
      exact ⟨rfl, rfl⟩
set_option maxHeartbeats 400000 in
/-- The document's IsLine. -/
theorem nLine (t : ByteArray) (m : Bool) (u d : Int) (A : Option Addr) (n c : Nat) (ht : t.size ≤ maxLen) (hn : n ≤ maxLen) (w : World) :
    Calls Tryz.prog 76 #[.agg #[.string t, .bool m, .int .i64 u, .int .i64 d, .slice A n c]] w fun e w' => e = .returned (.bool (lnF t m u d n)) ∧ Below w.heap.size w w' := by
  unfold maxLen at hn
  have hB0 := (Below.refl w.heap.size w).alloc (Nat.le_refl _) (.cells #[.string t, .bool m, .int .i64 u, .int .i64 d, .slice A n c] 31)
  have hz := Blk.new w 31 #[.string t, .bool m, .int .i64 u, .int .i64 d, .slice A n c]
  have z0 := hz.cell 0
  have z1 := hz.cell 1
  have z2 := hz.cell 2
  have z3 := hz.cell 3
  have z4 := hz.cell 4
  simp only [List.getElem?_toArray, List.getElem?_cons_zero, List.getElem?_cons_succ] at z0 z1 z2 z3 z4
  have HB := Lib.hid hB0
  clear hz hB0
  have HT := Lib.hid (fun w => nText t ht w)
  cases m
  · have e1 : lnF t false u d n = (textB t && decide (u = 0) && decide (d = 0) && decide (n = 0)) := rfl
    rw [e1]
    clear e1
    generalize textB t = b at HT ⊢
    have e3 : decide (n = 0) = decide ((n : Int) = 0) := decide_eq_decide.2 (by omega)
    rw [e3]
    have q1 : (u == 0) = decide (u = 0) := by rw [Bool.eq_iff_iff]; simp
    have q2 : (d == 0) = decide (d = 0) := by rw [Bool.eq_iff_iff]; simp
    have q3 : ((n : Int) == 0) = decide ((n : Int) = 0) := by rw [Bool.eq_iff_iff]; simp
    rw [← q1, ← q2, ← q3]
    clear e3 q1 q2 q3
    cases b <;> cases h1 : (u == 0) <;> cases h2 : (d == 0) <;> cases h3 : ((n : Int) == 0)
    all_goals
      go_enter Tryz.func76, Tryz.ntmps76
      go_wp2_with (go_at_call 83; refine (HT.out _).mono ?_; rintro e w1 ⟨rfl, rfl⟩)
      go_ret
      exact ⟨rfl, HB.out⟩
  · have e1 : lnF t true u d n = (decide (t = ⟨#[]⟩) && motB u && motB d && decide (n ≤ 2000)) := rfl
    rw [e1]
    clear e1 HT
    by_cases h0 : t.size = 0
    · have e : t = ⟨#[]⟩ := by
        obtain ⟨⟨l⟩⟩ := t
        have : l = [] := List.length_eq_zero_iff.1 h0
        subst this; rfl
      subst e
      rw [decide_eq_true (rfl : (⟨#[]⟩ : ByteArray) = ⟨#[]⟩), Bool.true_and]
      have u1 : motB u = (decide (-1000000 ≤ u) && decide (u ≤ 1000000)) := rfl
      have u2 : motB d = (decide (-1000000 ≤ d) && decide (d ≤ 1000000)) := rfl
      by_cases h1 : -1000000 ≤ u
      · by_cases h2 : u ≤ 1000000
        · by_cases h3 : -1000000 ≤ d
          · by_cases h4 : d ≤ 1000000
            · have e5 : decide (n ≤ 2000) = decide ((n : Int) ≤ 2000) := decide_eq_decide.2 (by omega)
              have er : (motB u && motB d && decide (n ≤ 2000)) = decide ((n : Int) ≤ 2000) := by rw [u1, u2, decide_eq_true h1, decide_eq_true h2, decide_eq_true h3, decide_eq_true h4, e5]; rfl
              rw [er]
              clear er e5 u1 u2
              go_enter Tryz.func76, Tryz.ntmps76
              go_wp2_with fail
              go_ret
              exact ⟨rfl, HB.out⟩
            · have er : (motB u && motB d && decide (n ≤ 2000)) = false := by rw [u2, decide_eq_false h4]; simp
              rw [er]
              clear er u1 u2
              go_enter Tryz.func76, Tryz.ntmps76
              go_wp2_with fail
              go_ret
              exact ⟨rfl, HB.out⟩
          · have er : (motB u && motB d && decide (n ≤ 2000)) = false := by rw [u2, decide_eq_false h3]; simp
            rw [er]
            clear er u1 u2
            go_enter Tryz.func76, Tryz.ntmps76
            go_wp2_with fail
            go_ret
            exact ⟨rfl, HB.out⟩
        · have er : (motB u && motB d && decide (n ≤ 2000)) = false := by rw [u1, decide_eq_false h2]; simp
          rw [er]
          clear er u1 u2
          go_enter Tryz.func76, Tryz.ntmps76
          go_wp2_with fail
          go_ret
          exact ⟨rfl, HB.out⟩
      · have er : (motB u && motB d && decide (n ≤ 2000)) = false := by rw [u1, decide_eq_false h1]; simp
        rw [er]
        clear er u1 u2
        go_enter Tryz.func76, Tryz.ntmps76
        go_wp2_with fail
        go_ret
        exact ⟨rfl, HB.out⟩
    · obtain ⟨he1, he2⟩ := toList_ne h0
      have e0 : decide (t = ⟨#[]⟩) = false := decide_eq_false (fun e => h0 (by rw [e]; rfl))
      rw [e0]
      simp only [Bool.false_and]
      clear e0
      go_enter Tryz.func76, Tryz.ntmps76
      go_wp2_with fail
      go_ret
      exact ⟨rfl, HB.out⟩
/-- The document's AreLines. -/
theorem nLns (K : Nat → Prop) (v : Value) (ls : List Ln) (w : World) (h : LnsAt K w v ls) (hK : ∀ i, K i → i < w.heap.size) :
    Calls Tryz.prog 61 #[v] w fun e w' => e = .returned (.bool (lnsB ls)) ∧ Below w.heap.size w w' := by
  obtain ⟨A, cap, rfl, hc1, hc2, hrd⟩ := h
  have HR := Lib.hid hrd
  have HK := Lib.hid hK
  clear hrd hK
  unfold maxLen at hc2
  go_enter Tryz.func61, Tryz.ntmps61
  go_wp2
  go_loopw [3] (fun v3 wr => ∃ k : Nat, k ≤ ls.length ∧ v3 = .int .i64 k ∧ (∀ (j : Nat) (l : Ln), j < k → ls[j]? = some l → lnB l = true) ∧ Below w.heap.size w wr) (fun v3 _ => ls.length - (intOf v3).toNat)
  case atStart => exact ⟨0, Nat.zero_le _, rfl, fun j l h => by omega, Below.refl _ _⟩
  case round =>
    obtain ⟨k, hk, rfl, hb, hB⟩ := hrel
    have HB := Lib.hid hb
    clear hb
    by_cases hlt : k < ls.length
    · obtain ⟨g, off, rfl, hKa, hra⟩ := HR.out (by omega)
      have hlk : ls[k]? = some ls[k] := List.getElem?_eq_getElem hlt
      have hr := (hra k _ hlk).stay (K' := K) hKa (Kept.of_below hB HK.out) (fun _ h => h)
      obtain ⟨vb, hvb, Ab, capb, rfl, hcb1, hcb2, _⟩ := hr.c4
      have c0 := hr.c0
      have c1 := hr.c1
      have c2 := hr.c2
      have c3 := hr.c3
      have hs0 : _ ≤ maxLen := Nat.le_trans hr.s0 (by decide)
      have HL := Lib.hid (fun w => nLine ls[k].text ls[k].made ls[k].up ls[k].down Ab ls[k].boxes.length capb hs0 (by omega) w)
      have hlb : lnF ls[k].text ls[k].made ls[k].up ls[k].down ls[k].boxes.length = lnB ls[k] := rfl
      rw [hlb] at HL
      clear hr hra hs0 hlb
      have HLK := Lib.hid hlk
      clear hlk
      generalize ls[k] = l at *
      cases hl : lnB l
      · rw [hl] at HL
        have HNo := Lib.hid (lns_no HLK.out hl)
        clear hl
        go_wp2_with (go_at_call 76; refine (HL.out _).mono ?_; rintro e w1 ⟨rfl, hb1⟩)
        go_ret
        exact ⟨ret_b HNo.out.symm, hB.trans (hb1.mono hB.size)⟩
      · rw [hl] at HL
        have Hl := Lib.hid hl
        clear hl
        go_wp2_with (go_at_call 76; refine (HL.out _).mono ?_; rintro e w1 ⟨rfl, hb1⟩)
        go_roundw
        case rel => exact ⟨k + 1, by omega, by go_num, fun j l2 hj h2 => by
          by_cases e : j = k
          · subst e
            rw [HLK.out] at h2
            injection h2 with h2
            rw [← h2]; exact Hl.out
          · exact HB.out j l2 (by omega) h2, hB.trans (hb1.mono hB.size)⟩
        case measure => simp [intOf]; omega
    · have hyes := lns_yes (ls := ls) (fun j l hj => HB.out j l (by have := (List.getElem?_eq_some_iff.1 hj).1; omega) hj)
      have HY := Lib.hid hyes
      clear hyes
      go_wp2
      go_ret
      exact ⟨ret_b HY.out.symm, hB⟩
end Go.Proofs.YtpgkhhchpojlaaaGreatDoor
