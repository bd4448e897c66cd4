/- Walks: Append, Text, length. -/
import Derived.Test.YtbedddgfijpbcaaGreatQh
namespace Go.Proofs.YtbedddgfijpbcaaGreat
open Go.RowKit Go.Maps Go.WideMaps

section
variable {U F : Nat → Prop} {R : Nat → Option Nat} {w : World} {g bm : Nat} {L : List Ent} {E : Nat → En}
theorem lk_no {s : ByteArray} (h : hasB L s = false) : lkV L s = .pointer none := by unfold lkV; rw [h]; rfl
theorem lk_has {s : ByteArray} (h : hasB L s = true) : lkV L s = .pointer (some ⟨getR L s, 0, none⟩) := by unfold lkV; rw [h]; rfl
theorem StAt.str (h : StAt U F R w g bm L E) {s t : ByteArray} (hh : hasB L s = true) (he : E (getR L s) = .str t) : Blk w (getR L s) 59 #[.int .i64 1, .string t, .slice none 0 0] ∧ t.size ≤ 2000 := by
  have hm := h.ent _ (mem_get hh)
  change EnAt (R (getR L s)) F w (getR L s) (E (getR L s)) at hm
  rw [he] at hm
  obtain ⟨k, t', v, hb, rfl, rfl, rfl, hz, _⟩ := hm
  exact ⟨hb, hz⟩
theorem StAt.mac (h : StAt U F R w g bm L E) {s : ByteArray} {ls : List Ln} (hh : hasB L s = true) (he : E (getR L s) = .mac ls) : ∃ v, Blk w (getR L s) 59 #[.int .i64 2, .string ⟨#[]⟩, v] ∧ OwnLns (R (getR L s)) F w v ls ∧ ls.length ≤ 2000 := by
  have hm := h.ent _ (mem_get hh)
  change EnAt (R (getR L s)) F w (getR L s) (E (getR L s)) at hm
  rw [he] at hm
  obtain ⟨k, t', v, hb, rfl, rfl, ho, hz⟩ := hm
  exact ⟨v, hb, ho, hz⟩
/-- The text that Append puts. -/
def apT (L : List Ent) (E : Nat → En) (s t : ByteArray) : ByteArray := if hasB L s then (match E (getR L s) with | .str t0 => t0 ++ t | .mac _ => t) else t
/-- What Append answers. -/
def apE (L : List Ent) (E : Nat → En) (s t : ByteArray) : Int := if chk (textB t) s = 0 then (if 2000 < (apT L E s t).size then 2 else putE L s) else chk (textB t) s
/-- How put ends. -/
def PutEnd (pe : Int) (U F : Nat → Prop) (g bm : Nat) (w w' : World) (L : List Ent) (E : Nat → En) (s : ByteArray) (en : En) : Prop :=
  (pe ≠ 0 → Below w.heap.size w w') ∧ (pe = 0 → PutTo U F g bm w w' L E s en)
/-- put, of a string. -/
theorem cPutS (s t : ByteArray) (hs : s.size ≤ maxLen) (h : StAt U F R w g bm L E) (ht : t.size ≤ 2000) (hn : nameB s = true) :
    Calls Tryz.prog 42 #[.pointer (some ⟨g, 0, none⟩), .string s, .agg #[.int .i64 1, .string t, .slice none 0 0]] w fun e w' => e = .returned (.int .i64 (putE L s)) ∧ PutEnd (putE L s) U F g bm w w' L E s (.str t) := by
  refine (cPut s hs h (r := none) (k := 1) (t := t) (v := .slice none 0 0) (en := .str t) ⟨rfl, rfl, rfl, ht, rfl⟩ (fun i hi => by cases hi) hn).mono fun e w' ⟨h1, h2, h3⟩ => ⟨h1, ?_⟩
  unfold putE
  cases hf : fullB L s
  · exact ⟨fun h => absurd rfl h, fun _ => (h3 hf).none_⟩
  · exact ⟨fun _ => h2 hf, fun h => by cases h⟩
set_option maxHeartbeats 400000 in
/-- Append. -/
theorem cAppend (s t : ByteArray) (hs : s.size ≤ maxLen) (ht : t.size ≤ maxLen) (h : StAt U F R w g bm L E) :
    Calls Tryz.prog 17 #[.pointer (some ⟨g, 0, none⟩), .string s, .string t] w fun e w' => e = .returned (.int .i64 (apE L E s t)) ∧ PutEnd (apE L E s t) U F g bm w w' L E s (.str (apT L E s t)) := by
  have HT := Lib.hid (fun w => cText t ht w)
  have HC := Lib.hid (cCheck (textB t) s hs g bm w h.c0)
  by_cases hc : chk (textB t) s = 0
  · obtain ⟨h1, h2⟩ := chk_0 hc
    have htz := text_size h1
    have c0 := h.c0
    have hown := h.own
    have HS := Lib.hid h.srt
    have HP := Lib.hid (fun t ht => cPutS s t hs h ht h2)
    rw [hc] at HC
    rw [h1] at HT HC
    have e1 : apE L E s t = if 2000 < (apT L E s t).size then 2 else putE L s := by unfold apE; rw [if_pos hc]
    cases hh : hasB L s
    · have e2 : apT L E s t = t := by unfold apT; rw [hh]; rfl
      rw [e2] at e1
      rw [if_neg (by omega)] at e1
      rw [e1, e2]
      have HL := Lib.hid (lk_no hh)
      have HH := Lib.hid hh
      have HP2 := Lib.hid (HP.out t htz)
      clear e1 e2 hh h hc h1 h2 HP
      generalize putE L s = pe at HP2 ⊢
      go_enter Tryz.func17, Tryz.ntmps17
      go_wp2_with (first
        | (go_at_call 41; refine (HT.out _).mono ?_; rintro e w1 ⟨rfl, rfl⟩)
        | (go_at_call 40; refine HC.out.mono ?_; rintro e w1 ⟨rfl, rfl⟩)
        | (at_lookup; refine wpList_look _ rfl _ _ rfl bm L.length L rfl hown HS.out s hs rfl ?_; rw [HH.out, HL.out])
        | (go_at_call 42; refine HP2.out.mono ?_; rintro e w1 ⟨rfl, hp⟩))
      go_ret
      exact ⟨rfl, hp⟩
    · cases he : E (getR L s) with
      | mac ls =>
        obtain ⟨v, hb, _⟩ := h.mac hh he
        have k0 := hb.cell 0
        simp only [List.getElem?_toArray, List.getElem?_cons_zero] at k0
        have e2 : apT L E s t = t := by unfold apT; rw [hh, he]; rfl
        rw [e2] at e1
        rw [if_neg (by omega)] at e1
        rw [e1, e2]
        have HL := Lib.hid (lk_has hh)
        have HH := Lib.hid hh
        have HP2 := Lib.hid (HP.out t htz)
        clear e1 e2 hh h hc h1 h2 HP he hb
        generalize putE L s = pe at HP2 ⊢
        generalize getR L s = e at HL k0
        go_enter Tryz.func17, Tryz.ntmps17
        go_wp2_with (first
          | (go_at_call 41; refine (HT.out _).mono ?_; rintro e w1 ⟨rfl, rfl⟩)
          | (go_at_call 40; refine HC.out.mono ?_; rintro e w1 ⟨rfl, rfl⟩)
          | (at_lookup; refine wpList_look _ rfl _ _ rfl bm L.length L rfl hown HS.out s hs rfl ?_; rw [HH.out, HL.out])
          | (go_at_call 42; refine HP2.out.mono ?_; rintro e w1 ⟨rfl, hp⟩))
        go_ret
        exact ⟨rfl, hp⟩
      | str t0 =>
        obtain ⟨hb, hz⟩ := h.str hh he
        have k0 := hb.cell 0
        have k1 := hb.cell 1
        simp only [List.getElem?_toArray, List.getElem?_cons_zero, List.getElem?_cons_succ] at k0 k1
        have e2 : apT L E s t = t0 ++ t := by unfold apT; rw [hh, he]; rfl
        rw [e2] at e1
        rw [e1, e2]
        have hsum : (t0 ++ t).size = t0.size + t.size := by rw [size_len, app_data, List.length_append]; rfl
        have ka := fun (w : World) => run_string_add_sum (P := Tryz.prog) w t0 t (by omega)
        have HL := Lib.hid (lk_has hh)
        have HH := Lib.hid hh
        have hsz : (t0 ++ t).size ≤ 4000 := by omega
        by_cases hg : 2000 < (t0 ++ t).size
        · rw [if_pos hg]
          have hgi : (2000 : Int) < ((t0 ++ t).size : Nat) := by omega
          clear e1 e2 hh h hc h1 h2 HP he hb hsum hg
          generalize t0 ++ t = T at ka hgi hsz ⊢
          generalize getR L s = e at HL k0 k1
          go_enter Tryz.func17, Tryz.ntmps17
          go_wp2_with (first
            | (go_at_call 41; refine (HT.out _).mono ?_; rintro e w1 ⟨rfl, rfl⟩)
            | (go_at_call 40; refine HC.out.mono ?_; rintro e w1 ⟨rfl, rfl⟩)
            | (at_lookup; refine wpList_look _ rfl _ _ rfl bm L.length L rfl hown HS.out s hs rfl ?_; rw [HH.out, HL.out]))
          go_ret
          exact ⟨rfl, fun _ => Below.refl _ _, fun h => by cases h⟩
        · rw [if_neg hg]
          have hgi : ¬ (2000 : Int) < ((t0 ++ t).size : Nat) := by omega
          have HP2 := Lib.hid (HP.out (t0 ++ t) (by omega))
          clear e1 e2 hh h hc h1 h2 HP he hb hsum hg
          generalize t0 ++ t = T at ka hgi HP2 hsz ⊢
          generalize getR L s = e at HL k0 k1
          generalize putE L s = pe at HP2 ⊢
          go_enter Tryz.func17, Tryz.ntmps17
          go_wp2_with (first
            | (go_at_call 41; refine (HT.out _).mono ?_; rintro e w1 ⟨rfl, rfl⟩)
            | (go_at_call 40; refine HC.out.mono ?_; rintro e w1 ⟨rfl, rfl⟩)
            | (at_lookup; refine wpList_look _ rfl _ _ rfl bm L.length L rfl hown HS.out s hs rfl ?_; rw [HH.out, HL.out])
            | (go_at_call 42; refine HP2.out.mono ?_; rintro e w1 ⟨rfl, hp⟩))
          go_ret
          exact ⟨rfl, hp⟩
  · have e1 : apE L E s t = chk (textB t) s := by unfold apE; rw [if_neg hc]
    rw [e1]
    clear e1 h
    generalize apT L E s t = T
    generalize textB t = b at HT HC hc ⊢
    generalize chk b s = c at HC hc ⊢
    have hB : (c != 0) = true := by simpa using hc
    go_enter Tryz.func17, Tryz.ntmps17
    go_wp2_with (first
      | (go_at_call 41; refine (HT.out _).mono ?_; rintro e w1 ⟨rfl, rfl⟩)
      | (go_at_call 40; refine HC.out.mono ?_; rintro e w1 ⟨rfl, rfl⟩))
    go_ret
    exact ⟨rfl, fun _ => Below.refl _ _, fun h => absurd h hc⟩
/-- What Text answers. -/
def txV (L : List Ent) (E : Nat → En) (s : ByteArray) : Value := if hasB L s then (match E (getR L s) with | .str t0 => .tuple #[.string t0, .int .i64 0] | .mac _ => .tuple #[.string ⟨#[]⟩, .int .i64 6]) else .tuple #[.string ⟨#[]⟩, .int .i64 6]
/-- Text. -/
theorem cTxt (s : ByteArray) (hs : s.size ≤ maxLen) (h : StAt U F R w g bm L E) :
    Calls Tryz.prog 16 #[.pointer (some ⟨g, 0, none⟩), .string s] w fun e w' => e = .returned (txV L E s) ∧ w = w' := by
  have HF := Lib.hid (cFind s hs h)
  unfold fdV fdE at HF
  cases hh : hasB L s
  · have e1 : txV L E s = .tuple #[.string ⟨#[]⟩, .int .i64 6] := by unfold txV; rw [hh]; rfl
    rw [e1]
    rw [hh, lk_no hh, if_neg (by decide)] at HF
    clear e1 hh h
    go_enter Tryz.func16, Tryz.ntmps16
    go_wp2_with (go_at_call 43; refine HF.out.mono ?_; rintro e w1 ⟨rfl, rfl⟩)
    go_ret2
    exact ⟨rfl, rfl⟩
  · rw [hh, lk_has hh, if_pos rfl] at HF
    cases he : E (getR L s) with
    | mac ls =>
      obtain ⟨v, hb, _⟩ := h.mac hh he
      have k0 := hb.cell 0
      simp only [List.getElem?_toArray, List.getElem?_cons_zero] at k0
      have e1 : txV L E s = .tuple #[.string ⟨#[]⟩, .int .i64 6] := by unfold txV; rw [hh, he]; rfl
      rw [e1]
      clear e1 hh h he hb
      generalize getR L s = e at HF k0
      go_enter Tryz.func16, Tryz.ntmps16
      go_wp2_with (go_at_call 43; refine HF.out.mono ?_; rintro e w1 ⟨rfl, rfl⟩)
      go_ret2
      exact ⟨rfl, rfl⟩
    | str t0 =>
      obtain ⟨hb, hz⟩ := h.str hh he
      have k0 := hb.cell 0
      have k1 := hb.cell 1
      simp only [List.getElem?_toArray, List.getElem?_cons_zero, List.getElem?_cons_succ] at k0 k1
      have e1 : txV L E s = .tuple #[.string t0, .int .i64 0] := by unfold txV; rw [hh, he]; rfl
      rw [e1]
      clear e1 hh h he hb
      generalize getR L s = e at HF k0 k1
      go_enter Tryz.func16, Tryz.ntmps16
      go_wp2_with (go_at_call 43; refine HF.out.mono ?_; rintro e w1 ⟨rfl, rfl⟩)
      go_ret2
      exact ⟨rfl, rfl⟩
end
end Go.Proofs.YtbedddgfijpbcaaGreat
