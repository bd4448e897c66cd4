/- Walks: who answers always the same; what is asked of him. -/
import Derived.Test.YtbkcnopkibdlbaaDoorAi
import Derived.Deep.RegionHeld3
namespace Go.Proofs.YtbkcnopkibdlbaaDoor
open Go.RowKit Go.Lib

theorem Blk.set_ {w : World} {g : Nat} {t : TypeId} {cs : Array Value} (h : Blk w g t cs) (i : Nat) (u : Value) : Blk (w.setCell ⟨g, i, none⟩ u) g t (cs.setIfInBounds i u) := by
  unfold Blk at h ⊢
  simp [World.setCell, Array.getElem?_modify, h]
section
variable {S : Nat → Prop} {w w1 : World}
theorem Turn.alloc (h : Turn S w w1) (o : Obj) : Turn S w (w1.alloc o) := h.trans (Turn.of_below (S := S) ((Below.refl _ _).alloc (Nat.le_refl _) o)) (fun _ _ h => h)
theorem Turn.drewN (h : Turn S w w1) (n : Nat) : Turn S w (w1.drewN n) := ⟨h.os, h.tape, h.output, h.size, h.block⟩
theorem Turn.drew (h : Turn S w w1) : Turn S w w1.drew := ⟨h.os, h.tape, h.output, h.size, h.block⟩
theorem Turn.set (h : Turn S w w1) (g o : Nat) (u : Value) (hg : S g) : Turn S w (w1.setCell ⟨g, o, none⟩ u) :=
  ⟨h.os, h.tape, h.output, by simpa [World.setCell] using h.size, fun i hi hn => (Below.heap_setCell w1 _ u i (fun e => hn (by rw [show i = g from e]; exact hg))).trans (h.block i hi hn)⟩
end
/-- fixed. -/
theorem lFixed (k st : Int) (nm : ByteArray) (w : World) : Calls Tryd.prog 13 #[.int .u8 k, .string nm, .int .i64 st] w fun e w' => e = .returned (.string ⟨#[51]⟩) ∧ w = w' := by
  go_enter Tryd.func13, Tryd.ntmps13
  go_wp2
  go_ret
  exact ⟨rfl, rfl⟩
def AF (_ : Esc) : ByteArray := ⟨#[51]⟩
/-- The expander's block, where 'fixed' is asked. -/
def JF (b : Nat) (cp : Bool) (U : Nat → Prop) (n : Nat) (w : World) : Prop := (∀ i, U i ↔ i = b) ∧ Blk w b 54 #[.bool cp, .func (.func 13) #[] #[], .int .i64 n]
set_option maxHeartbeats 1000000 in
/-- ask, of 'fixed'. -/
theorem kFixed {b : Nat} {cp : Bool} {U : Nat → Prop} {n : Nat} {w : World} (hJ : JF b cp U n w) (hn : n ≤ 500) (x : Esc) (o : Nat) (oi : Int) (ho : oi = o) (h8 : o ≤ 8000) :
    Calls Tryd.prog 29 #[.pointer (some ⟨b, 0, none⟩), .agg #[.int .u8 x.k, .string x.nm, .int .i64 x.st, .int .i64 x.a, .int .i64 x.z], .int .i64 oi] w fun r w' =>
      r = endO (akO AF n x o).1 ∧ ∃ U', JF b cp U' (akO AF n x o).2 w' ∧ Turn U w w' ∧ ∀ i, U' i → U i ∨ w.heap.size ≤ i := by
  obtain ⟨hU, hB⟩ := hJ
  have c1 : w.cell? ⟨b, 1, none⟩ = some (.func (.func 13) #[] #[]) := hB.cell 1
  have c2 : w.cell? ⟨b, 2, none⟩ = some (.int .i64 n) := hB.cell 2
  have fz := fun i => hB.frozen i
  have hlt := hB.lt
  have HB := Lib.hid hB
  have HU := Lib.hid hU
  have HL := Lib.hid (fun k st nm w => lFixed k st nm w)
  obtain ⟨k, nm, st, a, z⟩ := x
  simp only
  subst ho
  clear hU hB
  by_cases h5 : n = 500
  · subst h5
    have HE : Hid (akO AF 500 ⟨k, nm, st, a, z⟩ o = (none, 500)) := Lib.hid rfl
    rw [HE.out]
    clear HE hn
    go_enter Tryd.func29, Tryd.ntmps29
    go_wp2
    exact ⟨rfl, rfl, U, ⟨HU.out, HB.out.alloc _⟩, (Turn.refl _ _).alloc _, fun i h => .inl h⟩
  · have hB5 : ((n : Int) == 500) = false := by rw [beq_eq_false_iff_ne]; omega
    have hT : ∀ (p : Obj) (q : Nat), Turn U w (((w.setCell ⟨b, 2, none⟩ (.int .i64 ((n : Int) + 1))).alloc p).drewN q) := fun p q => (((Turn.refl _ _).set b 2 _ ((HU.out b).2 rfl)).alloc p).drewN q
    have hJ2 : ∀ (p : Obj) (q : Nat), JF b cp U (n + 1) (((w.setCell ⟨b, 2, none⟩ (.int .i64 ((n : Int) + 1))).alloc p).drewN q) := fun p q => ⟨HU.out, by
      have := ((HB.out.set_ 2 (.int .i64 ((n : Int) + 1))).alloc p).drewN q
      simpa using this⟩
    have hN := Blk.new (w.setCell ⟨b, 2, none⟩ (.int .i64 ((n : Int) + 1))) 65 #[.int .u8 k, .string nm, .int .i64 st, .int .i64 a, .int .i64 z]
    rw [show (w.setCell ⟨b, 2, none⟩ (.int .i64 ((n : Int) + 1))).heap.size = w.heap.size by simp [World.setCell]] at hN
    have hX := (HB.out.set_ 2 (.int .i64 ((n : Int) + 1))).alloc (.cells #[.int .u8 k, .string nm, .int .i64 st, .int .i64 a, .int .i64 z] 65)
    obtain ⟨W0, hW0⟩ : ∃ W0, W0 = (w.setCell ⟨b, 2, none⟩ (.int .i64 ((n : Int) + 1))).alloc (.cells #[.int .u8 k, .string nm, .int .i64 st, .int .i64 a, .int .i64 z] 65) := ⟨_, rfl⟩
    rw [← hW0] at hN hX
    have HS : Hid (W0.cell? ⟨b, 1, none⟩ = some (.func (.func 13) #[] #[]) ∧ W0.cell? ⟨w.heap.size, 0, none⟩ = some (.int .u8 k) ∧ W0.cell? ⟨w.heap.size, 1, none⟩ = some (.string nm) ∧ W0.cell? ⟨w.heap.size, 2, none⟩ = some (.int .i64 st)) :=
      Lib.hid ⟨by rw [hX.cell 1]; rfl, hN.cell 0, hN.cell 1, hN.cell 2⟩
    rw [hW0] at HS
    clear hN hX hW0
    have HT := Lib.hid hT
    have HJ := Lib.hid hJ2
    clear hT hJ2
    by_cases h9 : 8000 < (⟨#[51]⟩ : ByteArray).size + o
    · have HE : Hid (akO AF n ⟨k, nm, st, a, z⟩ o = (none, n + 1)) := Lib.hid (by unfold akO AF; rw [if_neg h5, if_pos h9])
      rw [HE.out]
      have h9 : 8000 < 1 + o := h9
      clear HE h5
      go_enter Tryd.func29, Tryd.ntmps29
      go_wp2
      go_region_held3 (fun w' => w'.cell? ⟨b, 1, none⟩ = some (.func (.func 13) #[] #[]) ∧ w'.cell? ⟨w.heap.size, 0, none⟩ = some (.int .u8 k) ∧ w'.cell? ⟨w.heap.size, 1, none⟩ = some (.string nm) ∧ w'.cell? ⟨w.heap.size, 2, none⟩ = some (.int .i64 st)) (first | exact HS.out)
        (first | (go_at_call 13; refine (HL.out _ _ _ _).mono ?_; rintro e w6 ⟨rfl, rfl⟩))
      go_wp2
      exact ⟨rfl, rfl, U, HJ.out _ _, HT.out _ _, fun i h => .inl h⟩
    · have HE : Hid (akO AF n ⟨k, nm, st, a, z⟩ o = (some ⟨#[51]⟩, n + 1)) := Lib.hid (by unfold akO AF; rw [if_neg h5, if_neg h9])
      rw [HE.out]
      have h9 : ¬ 8000 < 1 + o := h9
      clear HE h5
      go_enter Tryd.func29, Tryd.ntmps29
      go_wp2
      go_region_held3 (fun w' => w'.cell? ⟨b, 1, none⟩ = some (.func (.func 13) #[] #[]) ∧ w'.cell? ⟨w.heap.size, 0, none⟩ = some (.int .u8 k) ∧ w'.cell? ⟨w.heap.size, 1, none⟩ = some (.string nm) ∧ w'.cell? ⟨w.heap.size, 2, none⟩ = some (.int .i64 st)) (first | exact HS.out)
        (first | (go_at_call 13; refine (HL.out _ _ _ _).mono ?_; rintro e w6 ⟨rfl, rfl⟩))
      go_wp2
      go_ret
      exact ⟨rfl, U, HJ.out _ _, HT.out _ _, fun i h => .inl h⟩
theorem oFixed (b : Nat) (cp : Bool) : Orc b cp AF (JF b cp) where
  c0 h := h.2.cell 0
  c2 h := h.2.cell 2
  kind h i hi := by
    obtain rfl := (h.1 i).1 hi
    exact ⟨_, _, _, h.2, by decide⟩
  keep h hT hV := ⟨h.1, hT.blk h.2 (hV b ((h.1 b).2 rfl))⟩
  ask h hn x o oi ho h8 := kFixed h hn x o oi ho h8
end Go.Proofs.YtbkcnopkibdlbaaDoor
