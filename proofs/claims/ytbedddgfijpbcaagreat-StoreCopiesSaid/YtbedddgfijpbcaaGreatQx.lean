/- Walks: Lines, Kind, Length, Chop. -/
import Derived.Test.YtbedddgfijpbcaaGreatQw
namespace Go.Proofs.YtbedddgfijpbcaaGreat
open Go.RowKit Go.Maps Go.WideMaps

def En.lines : En → List Ln
  | .str t => [⟨t, false, 0, 0, []⟩]
  | .mac ls => ls
section
variable {U F : Nat → Prop} {R : Nat → Option Nat} {w w' : World} {g bm : Nat} {L : List Ent} {E : Nat → En}
theorem CopyAt.rd {v : Value} {ls : List Ln} (h : CopyAt w w' v ls) : LnsAt (fun k => w.heap.size ≤ k ∧ k < w'.heap.size) w' v ls := by
  obtain ⟨r, F, ho, hF, hr⟩ := h
  exact ho.rd (fun i hi => ⟨(hr i hi).1, (hr i hi).2.1⟩) hF
/-- The lines that Lines hands back. -/
def lnOf (L : List Ent) (E : Nat → En) (s : ByteArray) : List Ln := if hasB L s then (E (getR L s)).lines else []
/-- Lines. -/
theorem cLines (s : ByteArray) (hs : s.size ≤ maxLen) (h : StAt U F R w g bm L E) :
    Calls Tryz.prog 63 #[.pointer (some ⟨g, 0, none⟩), .string s] w fun x w' => ∃ A n c, x = .returned (.tuple #[.slice A n c, .int .i64 (fdE L s)]) ∧ LnsAt (fun k => w.heap.size ≤ k ∧ k < w'.heap.size) w' (.slice A n c) (lnOf L E s) ∧ Below w.heap.size w w' := by
  have HF := Lib.hid (cFind s hs h)
  unfold fdV at HF
  cases hh : hasB L s
  · have e1 : fdE L s = 6 := by unfold fdE; rw [hh]; rfl
    have e2 : lnOf L E s = [] := by unfold lnOf; rw [hh]; rfl
    rw [e1] at HF ⊢
    rw [e2]
    rw [lk_no hh] at HF
    clear e1 e2 hh h
    go_enter Tryz.func63, Tryz.ntmps63
    go_wp2_with (go_at_call 43; refine HF.out.mono ?_; rintro e w1 ⟨rfl, rfl⟩)
    go_ret2
    exact ⟨none, 0, 0, rfl, RowAt.nil, Below.refl _ _⟩
  · have e1 : fdE L s = 0 := by unfold fdE; rw [hh]; rfl
    have e2 : lnOf L E s = (E (getR L s)).lines := by unfold lnOf; rw [hh]; rfl
    rw [e1] at HF ⊢
    rw [e2]
    rw [lk_has hh] at HF
    cases he : E (getR L s) with
    | str t =>
      obtain ⟨hb, hz⟩ := h.str hh he
      have k0 := hb.cell 0
      have k1 := hb.cell 1
      simp only [List.getElem?_toArray, List.getElem?_cons_zero, List.getElem?_cons_succ] at k0 k1
      have hz2 : t.size ≤ 140737488351232 := by omega
      clear e1 e2 hh h he hb
      generalize getR L s = e at HF k0 k1
      have hN := Blk.new w 39 #[.string t, .bool false, .int .i64 0, .int .i64 0, .slice none 0 0]
      have HN := Lib.hid hN
      clear hN
      go_enter Tryz.func63, Tryz.ntmps63
      go_wp2_with (go_at_call 43; refine HF.out.mono ?_; rintro e w1 ⟨rfl, rfl⟩)
      go_ret2
      refine ⟨some ⟨w.heap.size, 0, none⟩, 1, 1, rfl, ⟨_, 1, rfl, Nat.le_refl _, by unfold maxLen; omega, fun _ => ⟨w.heap.size, 0, rfl, ⟨Nat.le_refl _, HN.out.lt⟩, fun i l hi => ?_⟩⟩, (Below.refl _ _).alloc (Nat.le_refl _) _⟩
      have hi0 : i = 0 := by
        have := (List.getElem?_eq_some_iff.1 hi).1
        change i < 1 at this
        omega
      subst hi0
      have hl : l = ⟨t, false, 0, 0, []⟩ := by
        change some (⟨t, false, 0, 0, []⟩ : Ln) = some l at hi
        injection hi with hi
        exact hi.symm
      subst hl
      exact ⟨HN.out.cell 0, HN.out.cell 1, HN.out.cell 2, HN.out.cell 3, ⟨_, HN.out.cell 4, RowAt.nil⟩, hz2, Nat.zero_le _⟩
    | mac ls =>
      obtain ⟨v, hb, ho, hz⟩ := h.mac hh he
      have k0 := hb.cell 0
      have k2 := hb.cell 2
      simp only [List.getElem?_toArray, List.getElem?_cons_zero, List.getElem?_cons_succ] at k0 k2
      have hm := mem_get hh
      have HC := Lib.hid (cCopyL (fun k => R (getR L s) = some k ∨ F k) v ls w (ho.rd (fun _ h => .inl h) (fun _ h => .inr h)) (fun k hk => by
        rcases hk with hk | hk
        · exact h.ul k (h.ur _ hm k hk)
        · exact h.fl k hk) (by omega))
      obtain ⟨A0, c0, rfl, _⟩ := ho
      show Calls _ _ _ _ fun x w' => ∃ A n c, x = .returned (.tuple #[.slice A n c, .int .i64 0]) ∧ LnsAt (fun k => w.heap.size ≤ k ∧ k < w'.heap.size) w' (.slice A n c) ls ∧ Below w.heap.size w w'
      clear e1 e2 hh h he hb hm
      generalize getR L s = e at HF k0 k2 HC
      go_enter Tryz.func63, Tryz.ntmps63
      go_wp2_with (first
        | (go_at_call 43; refine HF.out.mono ?_; rintro e w1 ⟨rfl, rfl⟩)
        | (go_at_call 37; refine HC.out.mono ?_; rintro e w1 ⟨A1, c1, rfl, hc, hb1⟩))
      go_ret2
      exact ⟨A1, _, c1, rfl, hc.rd, hb1⟩
/-- What Kind answers. -/
def kdI (L : List Ent) (E : Nat → En) (s : ByteArray) : Int := if hasB L s then (E (getR L s)).kind else 0
/-- Kind. -/
theorem cKind (s : ByteArray) (hs : s.size ≤ maxLen) (h : StAt U F R w g bm L E) :
    Calls Tryz.prog 68 #[.pointer (some ⟨g, 0, none⟩), .string s] w fun x w' => x = .returned (.int .i64 (kdI L E s)) ∧ w = w' := by
  have HF := Lib.hid (cFind s hs h)
  unfold fdV fdE at HF
  cases hh : hasB L s
  · have e1 : kdI L E s = 0 := by unfold kdI; rw [hh]; rfl
    rw [e1]
    rw [hh, lk_no hh, if_neg (by decide)] at HF
    clear e1 hh h
    go_enter Tryz.func68, Tryz.ntmps68
    go_wp2_with (go_at_call 43; refine HF.out.mono ?_; rintro e w1 ⟨rfl, rfl⟩)
    go_ret
    exact ⟨rfl, rfl⟩
  · have e1 : kdI L E s = (E (getR L s)).kind := by unfold kdI; rw [hh]; rfl
    rw [e1]
    rw [hh, lk_has hh, if_pos rfl] at HF
    have hk : w.cell? ⟨getR L s, 0, none⟩ = some (.int .i64 (E (getR L s)).kind) := by
      cases he : E (getR L s) with
      | str t => exact (h.str hh he).1.cell 0
      | mac ls =>
        obtain ⟨v, hb, _⟩ := h.mac hh he
        exact hb.cell 0
    clear e1 hh h
    generalize (E (getR L s)).kind = kd at hk ⊢
    generalize getR L s = e at HF hk
    go_enter Tryz.func68, Tryz.ntmps68
    go_wp2_with (go_at_call 43; refine HF.out.mono ?_; rintro e w1 ⟨rfl, rfl⟩)
    go_ret
    exact ⟨rfl, rfl⟩
/-- What Length answers. -/
def lnI (L : List Ent) (E : Nat → En) (s : ByteArray) : Int := if hasB L s then ((E (getR L s)).size : Nat) else 0
/-- Length. -/
theorem cLength (s : ByteArray) (hs : s.size ≤ maxLen) (h : StAt U F R w g bm L E) :
    Calls Tryz.prog 65 #[.pointer (some ⟨g, 0, none⟩), .string s] w fun x w' => x = .returned (.tuple #[.int .i64 (lnI L E s), .int .i64 (fdE L s)]) ∧ w = w' := by
  have HF := Lib.hid (cFind s hs h)
  unfold fdV at HF
  cases hh : hasB L s
  · have e1 : lnI L E s = 0 := by unfold lnI; rw [hh]; rfl
    have e2 : fdE L s = 6 := by unfold fdE; rw [hh]; rfl
    rw [e2] at HF ⊢
    rw [e1]
    rw [lk_no hh] at HF
    clear e1 e2 hh h
    go_enter Tryz.func65, Tryz.ntmps65
    go_wp2_with (go_at_call 43; refine HF.out.mono ?_; rintro e w1 ⟨rfl, rfl⟩)
    go_ret2
    exact ⟨rfl, rfl⟩
  · have e1 : lnI L E s = ((E (getR L s)).size : Nat) := by unfold lnI; rw [hh]; rfl
    have e2 : fdE L s = 0 := by unfold fdE; rw [hh]; rfl
    rw [e2] at HF ⊢
    rw [e1]
    rw [lk_has hh] at HF
    have HL := Lib.hid (cLen _ (h.ent _ (mem_get hh)))
    change Hid (Calls _ _ #[.pointer (some ⟨getR L s, 0, none⟩)] _ fun x w' => x = .returned (.int .i64 ((E (getR L s)).size : Nat)) ∧ w = w') at HL
    clear e1 e2 hh h
    generalize (E (getR L s)).size = z at HL ⊢
    generalize getR L s = e at HF HL
    go_enter Tryz.func65, Tryz.ntmps65
    go_wp2_with (first
      | (go_at_call 43; refine HF.out.mono ?_; rintro e w1 ⟨rfl, rfl⟩)
      | (go_at_call 49; refine HL.out.mono ?_; rintro e w1 ⟨rfl, rfl⟩))
    go_ret2
    exact ⟨rfl, rfl⟩
/-- What Chop leaves. -/
def chE (en : En) : En := en.kept 0 ((en.size : Nat) - 2)
/-- Chop. -/
theorem cChop (s : ByteArray) (hs : s.size ≤ maxLen) (h : StAt U F R w g bm L E) :
    Calls Tryz.prog 23 #[.pointer (some ⟨g, 0, none⟩), .string s] w fun x w' => x = .returned (.int .i64 (fdE L s)) ∧
      (hasB L s = false → w = w') ∧ (hasB L s = true → ToEnd U F g bm w w' L E (getR L s) (chE (E (getR L s)))) := by
  have HF := Lib.hid (cFind s hs h)
  unfold fdV at HF
  cases hh : hasB L s
  · have e1 : fdE L s = 6 := by unfold fdE; rw [hh]; rfl
    rw [e1] at HF ⊢
    rw [lk_no hh] at HF
    clear e1 hh h
    go_enter Tryz.func23, Tryz.ntmps23
    go_wp2_with (go_at_call 43; refine HF.out.mono ?_; rintro e w1 ⟨rfl, rfl⟩)
    go_ret
    exact ⟨rfl, fun _ => rfl, fun h => by cases h⟩
  · have e1 : fdE L s = 0 := by unfold fdE; rw [hh]; rfl
    rw [e1] at HF ⊢
    rw [lk_has hh] at HF
    have hm := mem_get hh
    have hu : U (getR L s) := h.ue _ hm
    have hen : EnAt (R (getR L s)) F w (getR L s) (E (getR L s)) := h.ent _ hm
    have hsm := hen.small
    have HLe := Lib.hid (cLen _ hen)
    have hK := cKeep (getR L s) 0 (((E (getR L s)).size : Nat) - 2) (by omega) hen (fun i hi e2 => by
      obtain ⟨cs, hcs⟩ := hen.row hi
      obtain ⟨k0, t0, v0, hb0, _⟩ := hen
      exact blk_ne hcs hb0 (by decide) e2) (h.uf _ hu)
    have HK := Lib.hid (hK.mono fun x w' ⟨g1, ⟨k, t, v, r', g2, g3, g4⟩, g5⟩ => (⟨g1, h.kept hh g2 g3 g4 g5⟩ : x = Ending.returned (.tuple #[]) ∧ ToEnd U F g bm w w' L E (getR L s) (chE (E (getR L s)))))
    clear e1 hh h hm hen hK hu
    generalize chE (E (getR L s)) = en at HK ⊢
    generalize (E (getR L s)).size = z at HLe HK hsm
    generalize getR L s = e at HF HLe HK ⊢
    go_enter Tryz.func23, Tryz.ntmps23
    go_wp2_with (first
      | (go_at_call 43; refine HF.out.mono ?_; rintro e w1 ⟨rfl, rfl⟩)
      | (go_at_call 49; refine HLe.out.mono ?_; rintro e w1 ⟨rfl, rfl⟩)
      | (go_at_call 45; refine HK.out.mono ?_; rintro e w1 ⟨rfl, hk⟩))
    go_ret
    exact ⟨rfl, fun h => (by cases h), fun _ => hk⟩
end
end Go.Proofs.YtbedddgfijpbcaaGreat
