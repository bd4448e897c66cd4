/- Walks of the document's own answers to layer 1: Eval, Number, Prefix, Change. -/
import Derived.Test.YtonhglhdbpmnhaaDoorNh
namespace Go.Proofs.YtonhglhdbpmnhaaDoor
open Go.RowKit

theorem n_ev (s : ByteArray) (hs : s.size ≤ 100000) (sc : Nat) (sz vs here one : Int) (fm : Bool) (ho : argF sc sz vs here = some one) : ∀ (f : Nat),
    (∀ i deep r, ev s ⟨one, sz, vs, here, fm⟩ f (.opd i deep) = some r → i ≤ s.size → deep ≤ 20 → ROpd s sc sz vs here fm i deep r) ∧
    (∀ i deep r, ev s ⟨one, sz, vs, here, fm⟩ f (.sum i deep) = some r → i ≤ s.size → deep ≤ 20 → RSum s sc sz vs here fm i deep r) := by
  intro f
  induction f using Nat.strongRecOn with
  | ind f ih =>
    rcases f with _ | f
    · exact ⟨fun i deep r h => (by cases h), fun i deep r h => (by cases h)⟩
    · refine ⟨fun i deep r h hi hd => ?_, fun i deep r h hi hd => ?_⟩
      · exact n60 s hs sc sz vs here one fm ho f i deep r hi hd h (fun i' r' h' hi' hd' => (ih f (by omega)).2 i' (deep + 1) r' h' hi' (by omega))
      · exact n41 s hs sc sz vs here one fm f i deep r hi hd h (fun f' i' r' hf' h' hi' => (ih f' (by omega)).1 i' deep r' h' hi' hd)

/-- The check of a scale and a context. -/
theorem n39t (c : Nat) (sz vs here : Int) {one : Int} (ho : argF c sz vs here = some one) (w : World) : Calls Tryd.prog 39 #[.int .u8 c, .agg #[.int .i64 sz, .int .i64 vs, .int .i64 here]] w fun e w' => e = .returned (.bool true) ∧ Below w.heap.size w w' := by
  have := n39 c sz vs here w
  rw [ho] at this; exact this
theorem n39f (c : Nat) (sz vs here : Int) (ho : argF c sz vs here = none) (w : World) : Calls Tryd.prog 39 #[.int .u8 c, .agg #[.int .i64 sz, .int .i64 vs, .int .i64 here]] w fun e w' => e = .returned (.bool false) ∧ Below w.heap.size w w' := by
  have := n39 c sz vs here w
  rw [ho] at this; exact this
theorem n23 (s : ByteArray) (hs : s.size ≤ 100000) (c : Nat) (sz vs here : Int) (w : World) :
    Calls Tryd.prog 23 #[.string s, .int .u8 c, .agg #[.int .i64 sz, .int .i64 vs, .int .i64 here]] w fun e w' => e = .returned (.tuple #[.int .i64 (evalA s c sz vs here).1, .int .i64 (evalA s c sz vs here).2]) ∧ Below w.heap.size w w' := by
  unfold evalA
  rcases ha : argF c sz vs here with _ | one
  · have H39 := Lib.hid (n39f c sz vs here ha)
    clear ha
    simp only
    go_enter Tryd.func23, Tryd.ntmps23
    go_wp2_with (go_at_call 39; refine (H39.out _).mono ?_; rintro e w1 ⟨rfl, hb1⟩)
    go_ret2
    exact ⟨rfl, nbox hb1⟩
  · have hS := (n_ev s hs c sz vs here one false ha (fuel s)).2 0 0 _ (evT_eq s _) (by omega) (by omega)
    have H39 := Lib.hid (n39t c sz vs here ha)
    simp only
    rcases hv : evT s ⟨one, sz, vs, here, false⟩ with ⟨n, en⟩ | x
    · rw [hv] at hS
      have hE := evT_eq s ⟨one, sz, vs, here, false⟩
      rw [hv] at hE
      have hok := ev_ok _ _ _ _ _ _ hE (by omega)
      have HS := Lib.hid (fun w => spec_ff (hS w))
      have hen := hok.2.2
      clear hS ha hv hE hok
      by_cases h : en = s.size
      · subst h
        simp only [whole, if_true]
        go_enter Tryd.func23, Tryd.ntmps23
        go_wp2_with (first
          | (go_at_call 39; refine (H39.out _).mono ?_; rintro e w1 ⟨rfl, hb1⟩; obtain ⟨k1, k2⟩ := ncell hb1)
          | (go_at_call 41; refine (HS.out _).mono ?_; rintro e w2 ⟨rfl, hb2⟩))
        go_ret2
        exact ⟨rfl, ntrans (nalloc (nbox hb1) _) hb2⟩
      · simp only [whole, if_neg h]
        have hlt : en < s.size := by omega
        go_enter Tryd.func23, Tryd.ntmps23
        go_wp2_with (first
          | (go_at_call 39; refine (H39.out _).mono ?_; rintro e w1 ⟨rfl, hb1⟩; obtain ⟨k1, k2⟩ := ncell hb1)
          | (go_at_call 41; refine (HS.out _).mono ?_; rintro e w2 ⟨rfl, hb2⟩))
        go_ret2
        exact ⟨rfl, ntrans (nalloc (nbox hb1) _) hb2⟩
    · rw [hv] at hS
      have hE := evT_eq s ⟨one, sz, vs, here, false⟩
      rw [hv] at hE
      have hx := ev_err _ _ _ _ _ hE
      have e0 : ((x : Int) != 0) = true := by simp; omega
      have HS := Lib.hid (fun w => spec_e (hS w))
      clear hS ha hv hE
      simp only [whole]
      go_enter Tryd.func23, Tryd.ntmps23
      go_wp2_with (first
        | (go_at_call 39; refine (H39.out _).mono ?_; rintro e w1 ⟨rfl, hb1⟩; obtain ⟨k1, k2⟩ := ncell hb1)
        | (go_at_call 41; refine (HS.out _).mono ?_; rintro e w2 ⟨⟨a, b, rfl⟩, hb2⟩))
      go_ret2
      exact ⟨rfl, ntrans (nalloc (nbox hb1) _) hb2⟩
end Go.Proofs.YtonhglhdbpmnhaaDoor
