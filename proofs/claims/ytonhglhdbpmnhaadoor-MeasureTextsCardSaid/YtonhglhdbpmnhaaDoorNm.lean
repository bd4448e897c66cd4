/- Walks: what one of a scale is, in the code's words and the document's. -/
import Derived.Test.YtonhglhdbpmnhaaDoorMi
import Derived.Test.YtonhglhdbpmnhaaDoorNk
namespace Go.Proofs.YtonhglhdbpmnhaaDoor
open Go.RowKit

/-- What one of a scale is, or that it is none. -/
def unitA (c : Nat) (sz vs here : Int) : Int × Int := match argF c sz vs here with | some n => (n, 0) | none => (0, 1)
/-- 15: Unit. -/
theorem c15 (c : Nat) (sz vs here : Int) (w : World) :
    Calls Tryd.prog 15 #[.int .u8 c, .agg #[.int .i64 sz, .int .i64 vs, .int .i64 here]] w fun e w' => e = .returned (.tuple #[.int .i64 (unitA c sz vs here).1, .int .i64 (unitA c sz vs here).2]) ∧ Below w.heap.size w w' := by
  unfold unitA
  rcases h : argF c sz vs here with _ | n
  · exact c15b c sz vs here w h
  · exact c15a c sz vs here n w h
/-- 16: the document's Unit. -/
theorem n16 (c : Nat) (sz vs here : Int) (w : World) :
    Calls Tryd.prog 16 #[.int .u8 c, .agg #[.int .i64 sz, .int .i64 vs, .int .i64 here]] w fun e w' => e = .returned (.tuple #[.int .i64 (unitA c sz vs here).1, .int .i64 (unitA c sz vs here).2]) ∧ Below w.heap.size w w' := by
  have h33 := fun w => n33 sz vs here w
  have h34 := fun w => n34 c w
  have k0 := (BC.init 38 sz vs here w)
  obtain ⟨m0, m1, m2, _⟩ := k0.keep
  by_cases ho : okB sz vs here = true
  · have hb := okB_iff.1 ho
    have h31 := fun w => n31 c sz vs here w hb.1 hb.2.1
    rw [ho] at h33
    rcases hu : unitF c sz vs with _ | n
    · have hA : unitA c sz vs here = (0, 1) := by unfold unitA argF; rw [if_pos ho, hu]
      have hs : (unitF c 0 0).isSome = false := by rw [unitF_isSome c 0 0 sz vs, hu]; rfl
      rw [hs] at h34
      rw [hA]
      have H33 := Lib.hid h33
      have H34 := Lib.hid h34
      clear h33 h34 h31 hb ho hu hs hA
      go_enter Tryd.func16, Tryd.ntmps16
      go_wp2_with (first
        | (go_at_call 33; refine (H33.out _).mono ?_; rintro e w1 ⟨rfl, hb1⟩; have k1 := k0.below hb1)
        | (go_at_call 34; refine (H34.out _).mono ?_; rintro e w' ⟨rfl, rfl⟩))
      go_ret2
      exact ⟨rfl, k1.2⟩
    · have hA : unitA c sz vs here = (n, 0) := by unfold unitA argF; rw [if_pos ho, hu]
      have hs : (unitF c 0 0).isSome = true := by rw [unitF_isSome c 0 0 sz vs, hu]; rfl
      rw [hs] at h34
      rw [hu] at h31
      rw [hA]
      have H33 := Lib.hid h33
      have H34 := Lib.hid h34
      have H31 := Lib.hid h31
      clear h33 h34 h31 hb ho hu hs hA
      go_enter Tryd.func16, Tryd.ntmps16
      go_wp2_with (first
        | (go_at_call 33; refine (H33.out _).mono ?_; rintro e w1 ⟨rfl, hb1⟩; have k1 := k0.below hb1; obtain ⟨p0, p1, p2, _⟩ := k1.keep)
        | (go_at_call 34; refine (H34.out _).mono ?_; rintro e w' ⟨rfl, rfl⟩)
        | (go_at_call 31; refine (H31.out _).mono ?_; rintro e w2 ⟨rfl, hb2⟩; have k2 := k1.below hb2))
      go_ret2
      exact ⟨rfl, k2.2⟩
  · have ho' : okB sz vs here = false := by simpa using ho
    have hA : unitA c sz vs here = (0, 1) := by unfold unitA argF; rw [if_neg ho]
    rw [ho'] at h33
    rw [hA]
    have H33 := Lib.hid h33
    clear h33 h34 ho ho' hA
    go_enter Tryd.func16, Tryd.ntmps16
    go_wp2_with (first
      | (go_at_call 33; refine (H33.out _).mono ?_; rintro e w1 ⟨rfl, hb1⟩; have k1 := k0.below hb1))
    go_ret2
    exact ⟨rfl, k1.2⟩
end Go.Proofs.YtonhglhdbpmnhaaDoor
