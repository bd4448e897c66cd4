/- Walks: ask, of who notes what he is asked; the document's lines; the statement on plain texts. -/
import Derived.Test.YtbkcnopkibdlbaaDoorAm
namespace Go.Proofs.YtbkcnopkibdlbaaDoor
open Go.RowKit Go.Lib

theorem below_drew (w : World) : Below w.heap.size w w.drew := ⟨rfl, rfl, rfl, Nat.le_refl _, fun _ _ => rfl⟩
/-- look. -/
theorem nLook {t n : Nat} {A : Option Addr} {c : Nat} {xs : List Value} {w : World} (h : TlAt t n A c xs w) (hn : n ≤ 500) (k st : Int) (nm : ByteArray) :
    Calls Tryd.prog 12 #[.pointer (some ⟨t, 0, none⟩), .int .u8 k, .string nm, .int .i64 st] w fun e w' => e = .returned (.string ⟨#[]⟩) ∧ TlTo t n A w w' := by
  have H := Lib.hid (nAnswer h hn k st nm)
  go_enter Tryd.func12, Tryd.ntmps12
  go_wp2_with (go_at_call 23; refine H.out.mono ?_; rintro e w1 ⟨rfl, h1⟩)
  go_ret
  exact ⟨rfl, h1⟩
def AT (_ : Esc) : ByteArray := ⟨#[]⟩
/-- The expander's block, where the noting one is asked. -/
def JT (t : Nat) (b : Nat) (cp : Bool) (U : Nat → Prop) (n : Nat) (w : World) : Prop :=
  Blk w b 54 #[.bool cp, .func (.func 12) #[.pointer (some ⟨t, 0, none⟩)] #[], .int .i64 n] ∧ ∃ A c xs, TlAt t n A c xs w ∧ ∀ i, U i ↔ (i = b ∨ TlS t A i)
theorem JT.drew {t b : Nat} {cp : Bool} {U : Nat → Prop} {n : Nat} {w : World} (h : JT t b cp U n w) : JT t b cp U n w.drew := h
set_option maxHeartbeats 1000000 in
/-- ask, of the noting one. -/
theorem kTeller {t b : Nat} {cp : Bool} {U : Nat → Prop} {n : Nat} {w : World} (hJ : JT t b cp U n w) (hn : n ≤ 500) (x : Esc) (o : Nat) (oi : Int) (ho : oi = o) (h8 : o ≤ 8000) :
    Calls Tryd.prog 29 #[.pointer (some ⟨b, 0, none⟩), .agg #[.int .u8 x.k, .string x.nm, .int .i64 x.st, .int .i64 x.a, .int .i64 x.z], .int .i64 oi] w fun r w' =>
      r = endO (akO AT n x o).1 ∧ ∃ U', JT t b cp U' (akO AT n x o).2 w' ∧ Turn U w w' ∧ ∀ i, U' i → U i ∨ w.heap.size ≤ i := by
  obtain ⟨hB, A, c, xs, hT, hU⟩ := hJ
  have c1 : w.cell? ⟨b, 1, none⟩ = some (.func (.func 12) #[.pointer (some ⟨t, 0, none⟩)] #[]) := hB.cell 1
  have c2 : w.cell? ⟨b, 2, none⟩ = some (.int .i64 n) := hB.cell 2
  have fz := fun i => hB.frozen i
  have hlt := hB.lt
  have HB := Lib.hid hB
  have HU := Lib.hid hU
  have HT := Lib.hid hT
  obtain ⟨k, nm, st, a, z⟩ := x
  simp only
  subst ho
  clear hU hB hT
  by_cases h5 : n = 500
  · subst h5
    have HE : Hid (akO AT 500 ⟨k, nm, st, a, z⟩ o = (none, 500)) := Lib.hid rfl
    rw [HE.out]
    clear HE hn
    go_enter Tryd.func29, Tryd.ntmps29
    go_wp2
    exact ⟨rfl, rfl, U, ⟨HB.out.alloc _, A, c, xs, HT.out.below ((Below.refl _ _).alloc (Nat.le_refl _) _), HU.out⟩, (Turn.refl _ _).alloc _, fun i h => .inl h⟩
  · have hB5 : ((n : Int) == 500) = false := by rw [beq_eq_false_iff_ne]; omega
    have HE : Hid (akO AT n ⟨k, nm, st, a, z⟩ o = (some ⟨#[]⟩, n + 1)) := Lib.hid (by
      unfold akO
      rw [if_neg h5, if_neg (by show ¬ 8000 < 0 + o; omega)]; rfl)
    rw [HE.out]
    obtain ⟨W0, hW0⟩ : ∃ W0, W0 = (w.setCell ⟨b, 2, none⟩ (.int .i64 ((n : Int) + 1))).alloc (.cells #[.int .u8 k, .string nm, .int .i64 st, .int .i64 a, .int .i64 z] 65) := ⟨_, rfl⟩
    have hN : Blk W0 w.heap.size 65 #[.int .u8 k, .string nm, .int .i64 st, .int .i64 a, .int .i64 z] := by
      have := Blk.new (w.setCell ⟨b, 2, none⟩ (.int .i64 ((n : Int) + 1))) 65 #[.int .u8 k, .string nm, .int .i64 st, .int .i64 a, .int .i64 z]
      rw [show (w.setCell ⟨b, 2, none⟩ (.int .i64 ((n : Int) + 1))).heap.size = w.heap.size by simp [World.setCell]] at this
      rw [hW0]; exact this
    have hX : Blk W0 b 54 #[.bool cp, .func (.func 12) #[.pointer (some ⟨t, 0, none⟩)] #[], .int .i64 ((n : Int) + 1)] := by
      have := (HB.out.set_ 2 (.int .i64 ((n : Int) + 1))).alloc (.cells #[.int .u8 k, .string nm, .int .i64 st, .int .i64 a, .int .i64 z] 65)
      rw [hW0]; simpa using this
    have hnb : ¬ TlS t A b := HT.out.ne HB.out (by decide) (by decide)
    have hTb : Turn (· = b) w W0 := by
      rw [hW0]
      exact ((Turn.refl (· = b) w).set b 2 _ rfl).alloc _
    have hT0 : TlAt t n A c xs W0 := ⟨hTb.blk HT.out.1 (fun e => hnb (.inl e.symm)), own_turn HT.out.2 hTb (fun g hg e => hnb (.inr (by rw [← show g = b from e]; rw [← hg]; exact own_any _ _ _ _ _)))⟩
    have hWs : w.heap.size ≤ W0.heap.size := hTb.size
    have HL : Hid (∀ w2, Below W0.heap.size W0 w2 → Calls Tryd.prog 12 #[.pointer (some ⟨t, 0, none⟩), .int .u8 k, .string nm, .int .i64 st] w2 fun e w' => e = .returned (.string ⟨#[]⟩) ∧
        (w'.cell? ⟨b, 1, none⟩ = some (.func (.func 12) #[.pointer (some ⟨t, 0, none⟩)] #[]) ∧ w'.cell? ⟨w.heap.size, 0, none⟩ = some (.int .u8 k) ∧ w'.cell? ⟨w.heap.size, 1, none⟩ = some (.string nm) ∧ w'.cell? ⟨w.heap.size, 2, none⟩ = some (.int .i64 st)) ∧
        ∃ U', JT t b cp U' (n + 1) w' ∧ Turn U w w' ∧ ∀ i, U' i → U i ∨ w.heap.size ≤ i) := Lib.hid (fun w2 hb2 => by
      have hT2 := hT0.below hb2
      have hX2 := hX.below hb2 hX.lt
      have hN2 := hN.below hb2 hN.lt
      refine (nLook hT2 hn k st nm).mono fun e w' ⟨he, A', c', xs', hA, hTn, hnew⟩ => ?_
      have hX3 := hTn.blk hX2 (hT2.ne hX2 (by decide) (by decide))
      have hN3 := hTn.blk hN2 (hT2.ne hN2 (by decide) (by decide))
      have hbs := hb2.size
      refine ⟨he, ⟨hX3.cell 1, hN3.cell 0, hN3.cell 1, hN3.cell 2⟩, fun i => i = b ∨ TlS t A' i, ⟨by simpa using hX3, A', c', xs', hA, fun _ => Iff.rfl⟩, ?_, fun i hi => ?_⟩
      · exact ((hTb.mono (S2 := U) (fun i e => (HU.out i).2 (.inl e))).trans (Turn.of_below (S := U) hb2) (fun _ _ h => h)).trans hTn (fun i _ e => (HU.out i).2 (.inr e))
      · rcases hi with e | e
        · exact .inl ((HU.out i).2 (.inl e))
        · rcases hnew i e with e | e
          · exact .inl ((HU.out i).2 (.inr e))
          · exact .inr (by omega))
    have HS : Hid (W0.cell? ⟨b, 1, none⟩ = some (.func (.func 12) #[.pointer (some ⟨t, 0, none⟩)] #[]) ∧ W0.cell? ⟨w.heap.size, 0, none⟩ = some (.int .u8 k) ∧ W0.cell? ⟨w.heap.size, 1, none⟩ = some (.string nm) ∧ W0.cell? ⟨w.heap.size, 2, none⟩ = some (.int .i64 st)) :=
      Lib.hid ⟨hX.cell 1, hN.cell 0, hN.cell 1, hN.cell 2⟩
    rw [hW0] at HS HL
    clear hN hX hW0 hTb hT0 hWs HE h5 hnb HB HU HT
    go_enter Tryd.func29, Tryd.ntmps29
    go_wp2
    go_region_held3 (fun w' => w'.cell? ⟨b, 1, none⟩ = some (.func (.func 12) #[.pointer (some ⟨t, 0, none⟩)] #[]) ∧ w'.cell? ⟨w.heap.size, 0, none⟩ = some (.int .u8 k) ∧ w'.cell? ⟨w.heap.size, 1, none⟩ = some (.string nm) ∧ w'.cell? ⟨w.heap.size, 2, none⟩ = some (.int .i64 st)) (first | exact HS.out | exact HS6.out)
      (first | (go_at_call 12; refine (HL.out _ (by first | exact below_drew _ | exact bdrew _ _)).mono ?_; rintro e w6 ⟨rfl, hs6, hf6⟩; have HS6 := Lib.hid hs6; have HF6 := Lib.hid hf6; clear hs6 hf6))
    go_wp2
    go_ret
    exact ⟨rfl, HF6.out⟩
theorem oTeller (t b : Nat) (cp : Bool) : Orc b cp AT (JT t b cp) where
  c0 h := h.1.cell 0
  c2 h := h.1.cell 2
  kind h i hi := by
    obtain ⟨hB, A, c, xs, hT, hU⟩ := h
    rcases (hU i).1 hi with rfl | rfl | e
    · exact ⟨_, _, _, hB, by decide⟩
    · exact ⟨_, _, _, hT.1, by decide⟩
    · rcases hT.2.2 with ⟨e', _⟩ | ⟨g', cap, cur, e', _, hgg, _⟩
      · injection e' with e1 _ _
        subst e1
        cases e
      · injection e' with e1 _ _
        subst e1
        injection e with e
        have e : g' = i := e
        subst e
        exact ⟨_, _, _, hgg, by decide⟩
  keep h hV hn := by
    obtain ⟨hB, A, c, xs, hT, hU⟩ := h
    exact ⟨hV.blk hB (hn b ((hU b).2 (.inl rfl))), A, c, xs, ⟨hV.blk hT.1 (hn _ ((hU _).2 (.inr (.inl rfl)))), own_turn hT.2 hV (fun g hg => hn g ((hU g).2 (.inr (.inr (by rw [← hg]; exact own_any _ _ _ _ _)))))⟩, hU⟩
  ask h hn x o oi ho h8 := kTeller h hn x o oi ho h8
end Go.Proofs.YtbkcnopkibdlbaaDoor
