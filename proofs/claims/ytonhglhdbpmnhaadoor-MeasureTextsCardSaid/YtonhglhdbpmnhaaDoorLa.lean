/- Walks of the statements: the fixed example, a scale's letter, all ways to read a string. -/
import Derived.Test.YtonhglhdbpmnhaaDoorNk
namespace Go.Proofs.YtonhglhdbpmnhaaDoor
open Go.RowKit

theorem evA_sane : evalA ⟨#[49, 105, 43, 50, 112, 42, 51]⟩ 117 0 0 0 = (2220, 0) := by decide +kernel
/-- 9: sane. -/
theorem l9 (w : World) (hO : OpsAt w) : Calls Tryd.prog 9 #[] w fun e w' => e = .returned (.bool true) ∧ Below w.heap.size w w' := by
  have h18 := fun w hO => c18 ⟨#[49, 105, 43, 50, 112, 42, 51]⟩ (by decide) 117 0 0 0 w hO
  rw [evA_sane] at h18
  have H18 := Lib.hid h18
  clear h18
  go_enter Tryd.func9, Tryd.ntmps9
  go_wp2_with (first
    | (go_at_call 18; refine (H18.out _ hO).mono ?_; rintro e w1 ⟨rfl, hb1⟩))
  go_ret
  exact ⟨rfl, hb1⟩
/-- 17: as. -/
theorem l17 (sz vs here : Int) (w : World) : Calls Tryd.prog 17 #[.agg #[.int .i64 sz, .int .i64 vs, .int .i64 here]] w fun e w' => e = .returned (.agg #[.int .i64 sz, .int .i64 vs, .int .i64 here]) ∧ Below w.heap.size w w' := by
  go_enter Tryd.func17, Tryd.ntmps17
  go_wp2
  refine bodyPost_ret (v := .agg #[.int .i64 sz, .int .i64 vs, .int .i64 here]) (by simp [results, Tryd.results17, go_sem]) rfl ⟨rfl, ?_⟩
  go_grown
/-- 13: letter. -/
theorem l13 (n : Int) (w : World) (_h1 : -9223372036854775808 ≤ n) (_h2 : n ≤ 9223372036854775807) : Calls Tryd.prog 13 #[.int .i64 n] w fun e w' => (∃ c : Nat, c < 256 ∧ e = .returned (.int .u8 c)) ∧ w = w' := by
  have hu : 0 ≤ IntKind.u64.wrap n := by rw [IntKind.wrap_u64]; omega
  have ht1 : 0 ≤ (IntKind.u64.wrap n).tmod 8 := Int.tmod_nonneg _ hu
  have ht2 : (IntKind.u64.wrap n).tmod 8 < 8 := Int.tmod_lt_of_pos _ (by omega)
  go_enter Tryd.func13, Tryd.ntmps13
  go_wp2
  · have k1 : n < 256 := by assumption
    have k2 : 0 ≤ n := by assumption
    go_ret
    exact ⟨⟨n.toNat, by omega, ret_i (show n = _ by omega)⟩, rfl⟩
  all_goals
    go_ret
    exact ⟨⟨_, UInt8.toNat_lt _, rfl⟩, rfl⟩
/-- What the statement's own boxes hold. -/
def BB (sz vs here : Int) (w : World) (g : Nat) (w' : World) : Prop := BC 23 sz vs here w w' ∧ Blk w' g 38 #[.int .i64 sz, .int .i64 vs, .int .i64 here] ∧ OpsAt w'
section
variable {sz vs here : Int} {w w1 w2 : World} {g : Nat}
theorem BB.below (h : BB sz vs here w g w1) (hb : Below w1.heap.size w1 w2) : BB sz vs here w g w2 := ⟨h.1.below hb, Blk.below h.2.1 hb (Blk.lt h.2.1), h.2.2.below hb⟩
theorem BB.cells (h : BB sz vs here w g w1) : w1.cell? ⟨w.heap.size, 0, none⟩ = some (.int .i64 sz) ∧ w1.cell? ⟨w.heap.size, 1, none⟩ = some (.int .i64 vs) ∧ w1.cell? ⟨w.heap.size, 2, none⟩ = some (.int .i64 here) ∧ w1.cell? ⟨g, 0, none⟩ = some (.int .i64 sz) ∧ w1.cell? ⟨g, 1, none⟩ = some (.int .i64 vs) ∧ w1.cell? ⟨g, 2, none⟩ = some (.int .i64 here) :=
  ⟨Blk.cell h.1.1 0, Blk.cell h.1.1 1, Blk.cell h.1.1 2, Blk.cell h.2.1 0, Blk.cell h.2.1 1, Blk.cell h.2.1 2⟩
end
set_option maxRecDepth 100000 in
set_option maxHeartbeats 1000000 in
/-- 10: reads. -/
theorem l10 (s : ByteArray) (hs : s.size ≤ 100000) (sz vs here n : Int) (w : World) (hO : OpsAt w) (h1 : -9223372036854775808 ≤ n) (h2 : n ≤ 9223372036854775807) :
    Calls Tryd.prog 10 #[.string s, .agg #[.int .i64 sz, .int .i64 vs, .int .i64 here], .int .i64 n] w fun e w' => e = .returned (.bool true) ∧ Below w.heap.size w w' := by
  go_enter Tryd.func10, Tryd.ntmps10
  go_wp2_with (first
    | (go_at_call 17; refine (l17 sz vs here _).mono ?_; rintro e w1 ⟨rfl, hb1⟩; have r1 := (BC.init 23 sz vs here w).below hb1; obtain ⟨p0, p1, p2, _⟩ := r1.keep; have hz1 := Blk.lt r1.1; have k0 : BB sz vs here w w1.heap.size (w1.alloc (.cells #[.int .i64 sz, .int .i64 vs, .int .i64 here] 38)) := ⟨r1.alloc _, Blk.new _ _ _, (hO.below r1.2).alloc _⟩)
    | (go_at_call 13; refine (l13 n _ h1 h2).mono ?_; rintro e w' ⟨⟨c, hc, rfl⟩, rfl⟩)
    | (go_at_call 21; refine (c21 s hs c sz vs here _ k0.2.2).mono ?_; rintro e v1 ⟨rfl, hv1⟩; have k1 := BB.below k0 hv1; obtain ⟨m00, m01, m02, m03, m04, m05⟩ := k1.cells)
    | (go_at_call 22; refine (n22 s hs c sz vs here v1).mono ?_; rintro e v2 ⟨rfl, hv2⟩; have k2 := BB.below k1 hv2; obtain ⟨m10, m11, m12, m13, m14, m15⟩ := k2.cells)
    | (go_at_call 18; refine (c18 s hs c sz vs here _ k2.2.2).mono ?_; rintro e v3 ⟨rfl, hv3⟩; have k3 := BB.below k2 hv3; obtain ⟨m20, m21, m22, m23, m24, m25⟩ := k3.cells)
    | (go_at_call 23; refine (n23 s hs c sz vs here v3).mono ?_; rintro e v4 ⟨rfl, hv4⟩; have k4 := BB.below k3 hv4; obtain ⟨m30, m31, m32, m33, m34, m35⟩ := k4.cells)
    | (go_at_call 20; refine (c20 s hs c sz vs here v4 k4.2.2).mono ?_; rintro e v5 ⟨rfl, hv5⟩; have k5 := BB.below k4 hv5; obtain ⟨m40, m41, m42, m43, m44, m45⟩ := k5.cells)
    | (go_at_call 24; refine (n24 s hs c sz vs here v5).mono ?_; rintro e v6 ⟨rfl, hv6⟩; have k6 := BB.below k5 hv6; obtain ⟨m50, m51, m52, m53, m54, m55⟩ := k6.cells)
    | (go_at_call 25; refine (c25 s hs c sz vs here n v6 k6.2.2).mono ?_; rintro e v7 ⟨rfl, hv7⟩; have k7 := BB.below k6 hv7; obtain ⟨m60, m61, m62, m63, m64, m65⟩ := k7.cells)
    | (go_at_call 26; refine (n26 s hs c sz vs here n v7).mono ?_; rintro e v8 ⟨rfl, hv8⟩; have k8 := BB.below k7 hv8; obtain ⟨m70, m71, m72, m73, m74, m75⟩ := k8.cells))
  go_ret
  exact ⟨rfl, k8.1.2⟩
end Go.Proofs.YtonhglhdbpmnhaaDoor
