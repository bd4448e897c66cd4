/- Walk: the statement on plain texts. -/
import Derived.Test.YtbkcnopkibdlbaaAo
namespace Go.Proofs.Ytbkcnopkibdlbaa
open Go.RowKit

/-- Plain. -/
theorem cPl (s : ByteArray) (hs : s.size ≤ 100000) (w : World) :
    Calls Try.prog 14 #[.string s] w fun e w' => e = .returned (.bool (esF s false).isNone) ∧ Below w.heap.size w w' := by
  have HF := Lib.hid (fun w => cFd s false hs w)
  cases he : esF s false with
  | none =>
    rw [he] at HF
    unfold fdV escV at HF
    simp only at HF
    clear he
    go_enter Try.func14, Try.ntmps14
    go_wp2_with (go_at_call 22; refine (HF.out _).mono ?_; rintro e w1 ⟨rfl, hb⟩; have hsz := hb.size)
    go_ret
    exact ⟨rfl, by go_grown⟩
  | some x =>
    rw [he] at HF
    unfold fdV escV at HF
    simp only at HF
    clear he
    go_enter Try.func14, Try.ntmps14
    go_wp2_with (go_at_call 22; refine (HF.out _).mono ?_; rintro e w1 ⟨rfl, hb⟩; have hsz := hb.size)
    go_ret
    exact ⟨rfl, by go_grown⟩
set_option maxRecDepth 100000 in
set_option maxHeartbeats 1000000 in
/-- ExpandPlain. -/
theorem lPlain (s : ByteArray) (hs : s.size ≤ maxLen) (w : World) : Calls Try.prog 5 #[.string s] w fun e w' => e = .returned (.bool true) ∧ Below w.heap.size w w' := by
  have HS := Lib.hid (fun w => lSane w)
  have HL := Lib.hid (fun w => nLine s hs w)
  unfold maxLen at hs
  by_cases hz : 1000 < (s.size : Int)
  · go_enter Try.func5, Try.ntmps5
    go_wp2_with (first
      | (go_at_call 8; refine (HS.out _).mono ?_; rintro e w2 ⟨rfl, hb2⟩))
    go_ret
    exact ⟨rfl, hb2⟩
  · cases hl : textB s with
    | false =>
      rw [hl] at HL
      clear hl
      go_enter Try.func5, Try.ntmps5
      go_wp2_with (first
        | (go_at_call 11; refine (HL.out _).mono ?_; rintro e w1 ⟨rfl, rfl⟩)
        | (go_at_call 8; refine (HS.out _).mono ?_; rintro e w2 ⟨rfl, hb2⟩))
      go_ret
      exact ⟨rfl, hb2⟩
    | true =>
      have hmf : ∀ (fn : Fn) (first cap : Array Value) (w : World), (Instr.makeFunc fn first cap).run Try.prog w = .ok (.func fn first cap) w := fun _ _ _ _ => rfl
      rw [hl] at HL
      have HP := Lib.hid (fun w => cPl s (by omega) w)
      have hbl := (Below.refl w.heap.size w).alloc (Nat.le_refl _) (.cells #[.slice none 0 0, .slice none 0 0] 36)
      have HX := Lib.hid (cExpandT s false hl w.heap.size (w.alloc (.cells #[.slice none 0 0, .slice none 0 0] 36)) (A0 := none) (c0 := 0) (xs := []) ⟨Blk.new _ _ _, World.ownsRow_nil _ _ _ _⟩ w.heap.size (fun i hi => by rcases hi with rfl | e; exact Nat.le_refl _; cases e) (by simp))
      cases he : esF s false with
      | none =>
        rw [he] at HP
        have HX2 : Hid (Calls Try.prog 12 #[.string s, .bool false, .func (.func 13) #[.pointer (some ⟨w.heap.size, 0, none⟩)] #[]] (w.alloc (.cells #[.slice none 0 0, .slice none 0 0] 36)) fun e w' =>
            e = .returned (.tuple #[.string s, .int .i64 0]) ∧ ∃ A c, Blk w' w.heap.size 36 #[.slice A 0 c, .slice none 0 0] ∧ Below w.heap.size w w') := Lib.hid (HX.out.mono (fun e w' ⟨o, m, A, c, _, hx, h1, ⟨h2, _⟩, h3, _⟩ => by
          obtain ⟨ho, hm⟩ := hx.inv_stop he
          subst ho
          subst hm
          rw [nil_app] at h1
          exact ⟨h1, A, c, h2, hbl.trans h3⟩))
        simp only [Option.isNone_none] at HP
        clear he HX hl hbl
        go_enter Try.func5, Try.ntmps5
        go_wp2_with (first
          | (go_at_call 11; refine (HL.out _).mono ?_; rintro e w1 ⟨rfl, rfl⟩)
          | (go_at_call 12; refine HX2.out.mono ?_; rintro e w2 ⟨rfl, A, c, hB, hb2⟩; have HB := Lib.hid hB; clear hB)
          | (go_at_call 14; refine (HP.out _).mono ?_; rintro e w3 ⟨rfl, hb3⟩; have q0 : w3.cell? ⟨w.heap.size, 0, none⟩ = some (.slice A 0 c) := (HB.out.below hb3 HB.out.lt).cell 0)
          | (go_at_call 8; refine (HS.out _).mono ?_; rintro e w4 ⟨rfl, hb4⟩))
        go_ret
        exact ⟨rfl, ntrans (ntrans hb2 hb3) hb4⟩
      | some x =>
        rw [he] at HP
        have HX2 : Hid (Calls Try.prog 12 #[.string s, .bool false, .func (.func 13) #[.pointer (some ⟨w.heap.size, 0, none⟩)] #[]] (w.alloc (.cells #[.slice none 0 0, .slice none 0 0] 36)) fun e w' =>
            (∃ (t : ByteArray) (er : Int) (m : Nat) (A : Option Addr) (c : Nat), e = .returned (.tuple #[.string t, .int .i64 er]) ∧ (0 < (m : Int) ∨ (t.size : Int) < s.size) ∧ Blk w' w.heap.size 36 #[.slice A m c, .slice none 0 0]) ∧ Below w.heap.size w w') := Lib.hid (HX.out.mono (fun e w' ⟨o, m, A, c, _, hx, h1, ⟨h2, _⟩, h3, _⟩ => by
          refine ⟨?_, hbl.trans h3⟩
          rcases exp_lost hx he with hm | ⟨t, rfl, ht⟩
          · cases o with
            | none => exact ⟨_, _, m, A, c, h1, .inl (by omega), h2⟩
            | some t => exact ⟨_, _, m, A, c, h1, .inl (by omega), h2⟩
          · exact ⟨_, _, m, A, c, h1, .inr (by omega), h2⟩))
        simp only [Option.isNone_some] at HP
        clear he HX hl hbl
        go_enter Try.func5, Try.ntmps5
        go_wp2_with (first
          | (go_at_call 11; refine (HL.out _).mono ?_; rintro e w1 ⟨rfl, rfl⟩)
          | (go_at_call 12; refine HX2.out.mono ?_; rintro e w2 ⟨⟨t, er, m, A, c, rfl, hor, hB⟩, hb2⟩; have HB := Lib.hid hB; have HO := Lib.hid hor; clear hB hor)
          | (go_at_call 14; refine (HP.out _).mono ?_; rintro e w3 ⟨rfl, hb3⟩; have q0 : w3.cell? ⟨w.heap.size, 0, none⟩ = some (.slice A m c) := (HB.out.below hb3 HB.out.lt).cell 0)
          | (go_at_call 8; refine (HS.out _).mono ?_; rintro e w4 ⟨rfl, hb4⟩))
        all_goals
          go_ret
          first
            | exact ⟨rfl, ntrans (ntrans hb2 hb3) hb4⟩
            | (exfalso; have := HO.out; omega)
end Go.Proofs.Ytbkcnopkibdlbaa
