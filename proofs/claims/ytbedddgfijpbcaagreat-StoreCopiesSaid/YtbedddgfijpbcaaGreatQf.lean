/- Walks: texts, how a name is found, whether there is room. -/
import Derived.Test.YtbedddgfijpbcaaGreatQe
import Derived.Test.YtbedddgfijpbcaaGreatShelf
namespace Go.Proofs.YtbedddgfijpbcaaGreat
open Go.RowKit Go.Maps Go.WideMaps

/-- Whether a text has no line feed. -/
def noLf (s : ByteArray) : Bool := !decide (0 ≤ Lib.indexByte s.data.toList 10)
def textB (s : ByteArray) : Bool := decide (s.size ≤ 2000) && noLf s
/-- validText. -/
theorem cText (s : ByteArray) (hs : s.size ≤ maxLen) (w : World) :
    Calls Tryz.prog 41 #[.string s] w fun e w' => e = .returned (.bool (textB s)) ∧ w = w' := by
  unfold maxLen at hs
  have HC := Lib.hid (fun w => Tryz.strings_Contains_one s 10 w)
  by_cases h1 : (s.size : Int) ≤ 2000
  · have hn : textB s = noLf s := by unfold textB; rw [decide_eq_true (by omega : s.size ≤ 2000)]; rfl
    rw [hn]
    unfold noLf
    generalize decide (0 ≤ Lib.indexByte s.data.toList 10) = b at HC ⊢
    clear hn
    go_enter Tryz.func41, Tryz.ntmps41
    go_wp2_with (go_at_call 73; refine (HC.out _).mono ?_; rintro e w' ⟨rfl, rfl⟩)
    go_ret
    exact ⟨rfl, rfl⟩
  · have hn : textB s = false := by unfold textB; rw [decide_eq_false (by omega : ¬ s.size ≤ 2000)]; rfl
    rw [hn]; clear hn
    go_enter Tryz.func41, Tryz.ntmps41
    go_wp2_with fail
    go_ret
    exact ⟨rfl, rfl⟩
/-- What check answers. -/
def chk (good : Bool) (s : ByteArray) : Int := if good then erI (nameB s) 6 else 1
/-- check, of a store that was made. -/
theorem cCheck (good : Bool) (s : ByteArray) (hs : s.size ≤ maxLen) (g bm : Nat) (w : World) (c0 : w.cell? ⟨g, 0, none⟩ = some (.map (some bm))) :
    Calls Tryz.prog 40 #[.pointer (some ⟨g, 0, none⟩), .bool good, .string s] w fun e w' => e = .returned (.int .i64 (chk good s)) ∧ w = w' := by
  have HN := Lib.hid (fun w => cName s hs w)
  have qm := fun (w : World) => run_eql_map_nil (P := Tryz.prog) w 44 _ _ (some bm) Tryz.underlying44
  unfold chk
  generalize nameB s = a at HN ⊢
  cases good
  · go_enter Tryz.func40, Tryz.ntmps40
    go_wp2_with fail
    go_ret
    exact ⟨rfl, rfl⟩
  · cases a
    all_goals
      go_enter Tryz.func40, Tryz.ntmps40
      go_wp2_with (go_at_call 47; refine (HN.out _).mono ?_; rintro e w' ⟨rfl, rfl⟩)
      go_ret
      exact ⟨rfl, rfl⟩
section
variable {U F : Nat → Prop} {R : Nat → Option Nat} {w : World} {g bm : Nat} {L : List Ent} {E : Nat → En}
/-- Whether there is no room. -/
def fullB (L : List Ent) (s : ByteArray) : Bool := !hasB L s && decide (500 ≤ L.length)
/-- fullFor. -/
theorem cFull (s : ByteArray) (hs : s.size ≤ maxLen) (h : StAt U F R w g bm L E) :
    Calls Tryz.prog 48 #[.pointer (some ⟨g, 0, none⟩), .string s] w fun e w' => e = .returned (.bool (fullB L s)) ∧ w = w' := by
  have c0 := h.c0
  have hown := h.own
  have HS := Lib.hid h.srt
  have hl := lenB h
  clear h
  have hq : fullB L s = (!hasB L s && decide ((500 : Int) ≤ (L.length : Nat))) := by
    unfold fullB
    congr 1
    exact decide_eq_decide.2 (by omega)
  rw [hq]
  clear hq
  cases hh : hasB L s
  all_goals
    have HH := Lib.hid hh
    clear hh
    go_enter Tryz.func48, Tryz.ntmps48
    go_wp2_with (at_lookup; refine wpList_look _ rfl _ _ rfl bm L.length L rfl hown HS.out s hs rfl ?_; rw [HH.out])
    go_ret
    exact ⟨rfl, rfl⟩
/-- What find answers. -/
def fdE (L : List Ent) (s : ByteArray) : Int := if hasB L s then 0 else 6
def fdV (L : List Ent) (s : ByteArray) : Value := .tuple #[lkV L s, .int .i64 (fdE L s)]
/-- find. -/
theorem cFind (s : ByteArray) (hs : s.size ≤ maxLen) (h : StAt U F R w g bm L E) :
    Calls Tryz.prog 43 #[.pointer (some ⟨g, 0, none⟩), .string s] w fun e w' => e = .returned (fdV L s) ∧ w = w' := by
  have c0 := h.c0
  have hown := h.own
  have HS := Lib.hid h.srt
  have HC := Lib.hid (cCheck true s hs g bm w c0)
  have hgood := hasB_name h.good (s := s)
  clear h
  unfold chk at HC
  cases hh : hasB L s
  · have e1 : fdV L s = .tuple #[.pointer none, .int .i64 6] := by unfold fdV fdE lkV; rw [hh]; rfl
    rw [e1]
    cases hn : nameB s
    · rw [hn] at HC
      clear hn hgood e1 hh
      go_enter Tryz.func43, Tryz.ntmps43
      go_wp2_with (go_at_call 40; refine HC.out.mono ?_; rintro e w1 ⟨rfl, rfl⟩; unfold erI)
      go_ret2
      exact ⟨rfl, rfl⟩
    · rw [hn] at HC
      have e2 : lkV L s = .pointer none := by unfold lkV; rw [hh]; rfl
      have HH := Lib.hid hh
      have H2 := Lib.hid e2
      clear hn hgood e1 hh e2
      go_enter Tryz.func43, Tryz.ntmps43
      go_wp2_with (first
        | (go_at_call 40; refine HC.out.mono ?_; rintro e w1 ⟨rfl, rfl⟩; unfold erI)
        | (at_lookup; refine wpList_look _ rfl _ _ rfl bm L.length L rfl hown HS.out s hs rfl ?_; rw [HH.out, H2.out]))
      go_ret2
      exact ⟨rfl, rfl⟩
  · have e1 : fdV L s = .tuple #[.pointer (some ⟨getR L s, 0, none⟩), .int .i64 0] := by unfold fdV fdE lkV; rw [hh]; rfl
    have e2 : lkV L s = .pointer (some ⟨getR L s, 0, none⟩) := by unfold lkV; rw [hh]; rfl
    rw [e1]
    rw [hgood hh] at HC
    have HH := Lib.hid hh
    have H2 := Lib.hid e2
    clear hgood e1 hh e2
    generalize getR L s = e at H2 ⊢
    go_enter Tryz.func43, Tryz.ntmps43
    go_wp2_with (first
      | (go_at_call 40; refine HC.out.mono ?_; rintro e w1 ⟨rfl, rfl⟩; unfold erI)
      | (at_lookup; refine wpList_look _ rfl _ _ rfl bm L.length L rfl hown HS.out s hs rfl ?_; rw [HH.out, H2.out]))
    go_ret2
    exact ⟨rfl, rfl⟩
end
end Go.Proofs.YtbedddgfijpbcaaGreat
