/- Walk of the statement on texts and units. -/
import Derived.Test.YtonhglhdbpmnhaaDoorNr
namespace Go.Proofs.YtonhglhdbpmnhaaDoor
open Go.RowKit

set_option maxRecDepth 100000 in
set_option maxHeartbeats 1000000 in
/-- 5: the statement. -/
theorem l5 (n sc sz vs here : Int) (w : World) (hO : OpsAt w) (hP : PowAt w) (_h0 : -9223372036854775808 ≤ n) (h1 : n ≤ 9223372036854775807) (h2 : -9223372036854775808 ≤ sc) (h3 : sc ≤ 9223372036854775807) :
    Calls Tryd.prog 5 #[.int .i64 n, .int .i64 sc, .agg #[.int .i64 sz, .int .i64 vs, .int .i64 here]] w fun e w' => e = .returned (.bool true) ∧ Below w.heap.size w w' := by
  have hb0 : Below w.heap.size w (w.alloc (.cells #[.int .i64 sz, .int .i64 vs, .int .i64 here] 23)) := (Below.refl _ _).alloc (Nat.le_refl _) _
  have hP0 := hP.below hb0
  have hO0 := hO.below hb0
  have k0 := BC.init 23 sz vs here w
  have H13 := Lib.hid (fun w => l13f sc w h2 h3)
  have H12 := Lib.hid (fun w hP => c12 n (letF sc) (letF_lt sc) h1 w hP)
  have H14 := Lib.hid (fun w => n14 n (letF sc) (letF_lt sc) h1 w)
  have H15 := Lib.hid (fun w => c15 (letF sc) sz vs here w)
  have H16 := Lib.hid (fun w => n16 (letF sc) sz vs here w)
  have H17 := Lib.hid (fun w => l17 sz vs here w)
  generalize letF sc = c at H13 H12 H14 H15 H16
  generalize (textA n c).1 = tS at H12 H14
  generalize (textA n c).2 = tE at H12 H14
  generalize (unitA c sz vs here).1 = uN at H15 H16
  generalize (unitA c sz vs here).2 = uE at H15 H16
  go_enter Tryd.func5, Tryd.ntmps5
  go_wp2_with (first
    | (go_at_call 13; refine (H13.out _).mono ?_; rintro e w' ⟨rfl, rfl⟩)
    | (go_at_call 12; refine (H12.out _ hP0).mono ?_; rintro e w1 ⟨rfl, hb1⟩)
    | (go_at_call 14; refine (H14.out _).mono ?_; rintro e w2 ⟨rfl, hb2⟩; have hr := (k0.below hb1).below hb2))
  go_region_held3 (fun w' => w'.cell? ⟨w.heap.size, 0, none⟩ = some (.int .i64 sz) ∧ w'.cell? ⟨w.heap.size, 1, none⟩ = some (.int .i64 vs) ∧ w'.cell? ⟨w.heap.size, 2, none⟩ = some (.int .i64 here) ∧ BC 23 sz vs here w w')
    (first | exact BC.keep hr | exact BC.keep hr.drew | exact BC.keep (BC.below hr.drew hbe))
    (first
      | (go_at_call 13; refine (H13.out _).mono ?_; rintro e w' ⟨rfl, rfl⟩)
      | (go_at_call 15; refine (H15.out _).mono ?_; rintro e we ⟨rfl, hbe⟩))
  have hre := BC.below hr.drew hbe
  go_wp2
  go_region_held3 (fun w' => w'.cell? ⟨w.heap.size, 0, none⟩ = some (.int .i64 sz) ∧ w'.cell? ⟨w.heap.size, 1, none⟩ = some (.int .i64 vs) ∧ w'.cell? ⟨w.heap.size, 2, none⟩ = some (.int .i64 here) ∧ BC 23 sz vs here w w')
    (first | exact BC.keep hre | exact BC.keep hre.drew | exact BC.keep (BC.below hre.drew hbf) | exact BC.keep (BC.below (BC.below hre.drew hbf) hbg))
    (first
      | (go_at_call 13; refine (H13.out _).mono ?_; rintro e w' ⟨rfl, rfl⟩)
      | (go_at_call 17; refine (H17.out _).mono ?_; rintro e wf ⟨rfl, hbf⟩)
      | (go_at_call 16; refine (H16.out _).mono ?_; rintro e wg ⟨rfl, hbg⟩))
  have hB := (BC.below (BC.below hre.drew hbf) hbg).2
  have hO1 := hO.below hB
  go_wp2_with (go_at_call 9; refine (l9 _ hO1).mono ?_; rintro e wh ⟨rfl, hbh⟩)
  go_ret
  exact ⟨rfl, ntrans hB hbh⟩
end Go.Proofs.YtonhglhdbpmnhaaDoor
