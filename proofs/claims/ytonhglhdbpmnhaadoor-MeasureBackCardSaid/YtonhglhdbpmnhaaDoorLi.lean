/- Walk of the statement on texts that are read again. -/
import Derived.Test.YtonhglhdbpmnhaaDoorNr
namespace Go.Proofs.YtonhglhdbpmnhaaDoor
open Go.RowKit

theorem textS_size (N U c : Nat) (hN : N ≤ 9223372036854775807) : (textS N U c).size ≤ 30 := by
  rw [size_list]; exact txt_len N U _ hN
theorem c12k (c U : Nat) (k : Int) (hT : TS c U) (h0 : 0 ≤ k) (h1 : k < 1000000000) (w : World) (hP : PowAt w) :
    Calls Tryd.prog 12 #[.int .i64 k, .int .u8 c] w fun e w' => e = .returned (.tuple #[.string (textS k.toNat U c), .int .i64 0]) ∧ Below w.heap.size w w' := by
  have := c12g c U k.toNat hT (by omega) w hP
  rw [Int.toNat_of_nonneg h0] at this
  exact this
theorem c18k (c U : Nat) (k sz vs : Int) (hT : (U = 1 ∧ c = 117) ∨ (U = 10 ∧ c = 112)) (h0 : 0 ≤ k) (h1 : k < 1000000000) (hz : 0 ≤ sz ∧ sz ≤ 1000000) (hv : 0 ≤ vs ∧ vs ≤ 1000000) (w : World) (hO : OpsAt w) :
    Calls Tryd.prog 18 #[.string (textS k.toNat U c), .int .u8 118, .agg #[.int .i64 sz, .int .i64 vs, .int .i64 0]] w fun e w' => e = .returned (.tuple #[.int .i64 k, .int .i64 0]) ∧ Below w.heap.size w w' := by
  have h := c18 (textS k.toNat U c) (Nat.le_trans (textS_size _ _ _ (by omega)) (by omega)) 118 sz vs 0 w hO
  have he : evalA (textS k.toNat U c) 118 sz vs 0 = (k, 0) := by
    have := eval_text (s := textS k.toNat U c) (k := k.toNat) (u := U) (c := c.toUInt8) (by omega) hz hv (by rcases hT with ⟨rfl, rfl⟩ | ⟨rfl, rfl⟩ <;> decide) rfl
    rw [this, Int.toNat_of_nonneg h0]
  rw [he] at h
  exact h
def R6 (w : World) (sz vs : Int) (v7 : Value) (wr : World) : Prop := ∃ i : Nat, v7 = .int .i64 i ∧ i ≤ 2 ∧ Blk wr (w.heap.size + 1) 23 #[.int .i64 sz, .int .i64 vs, .int .i64 0] ∧ Below w.heap.size w wr
set_option maxRecDepth 100000 in
set_option maxHeartbeats 1000000 in
/-- 6: the statement. -/
theorem l6 (n sz vs here : Int) (w : World) (hO : OpsAt w) (hP : PowAt w) :
    Calls Tryd.prog 6 #[.int .i64 n, .agg #[.int .i64 sz, .int .i64 vs, .int .i64 here]] w fun e w' => e = .returned (.bool true) ∧ Below w.heap.size w w' := by
  have un := urem n 1000000000 (by omega)
  have us := urem sz 1001 (by omega)
  have uv := urem vs 1001 (by omega)
  have k0 := BC.init 23 sz vs here w
  obtain ⟨m0, m1, m2, _⟩ := k0.keep
  have H12u : Hid (∀ w, PowAt w → Calls Tryd.prog 12 #[.int .i64 ((IntKind.u64.wrap n).tmod 1000000000), .int .u8 117] w fun e w' => e = .returned (.tuple #[.string (textS ((IntKind.u64.wrap n).tmod 1000000000).toNat 1 117), .int .i64 0]) ∧ Below w.heap.size w w') :=
    Lib.hid (fun w hP => c12k 117 1 _ (.inl ⟨rfl, rfl⟩) un.1 un.2 w hP)
  have H12p : Hid (∀ w, PowAt w → Calls Tryd.prog 12 #[.int .i64 ((IntKind.u64.wrap n).tmod 1000000000), .int .u8 112] w fun e w' => e = .returned (.tuple #[.string (textS ((IntKind.u64.wrap n).tmod 1000000000).toNat 10 112), .int .i64 0]) ∧ Below w.heap.size w w') :=
    Lib.hid (fun w hP => c12k 112 10 _ (.inr (.inl ⟨rfl, rfl⟩)) un.1 un.2 w hP)
  have H18u := Lib.hid (fun w hO => c18k 117 1 _ ((IntKind.u64.wrap sz).tmod 1001) ((IntKind.u64.wrap vs).tmod 1001) (.inl ⟨rfl, rfl⟩) un.1 un.2 ⟨us.1, by omega⟩ ⟨uv.1, by omega⟩ w hO)
  have H18p := Lib.hid (fun w hO => c18k 112 10 _ ((IntKind.u64.wrap sz).tmod 1001) ((IntKind.u64.wrap vs).tmod 1001) (.inr ⟨rfl, rfl⟩) un.1 un.2 ⟨us.1, by omega⟩ ⟨uv.1, by omega⟩ w hO)
  generalize textS ((IntKind.u64.wrap n).tmod 1000000000).toNat 1 117 = Su at H12u H18u
  generalize textS ((IntKind.u64.wrap n).tmod 1000000000).toNat 10 112 = Sp at H12p H18p
  go_enter Tryd.func6, Tryd.ntmps6
  go_wp2
  go_loopw [7] (fun v7 wr => R6 w ((IntKind.u64.wrap sz).tmod 1001) ((IntKind.u64.wrap vs).tmod 1001) v7 wr) (fun v7 _ => 2 - (intOf v7).toNat)
  case atStart =>
    refine ⟨0, rfl, by omega, ?_, nalloc (nalloc (Below.refl _ _) _) _⟩
    have := Blk.new (w.alloc (.cells #[.int .i64 sz, .int .i64 vs, .int .i64 here] 23)) 23 #[.int .i64 ((IntKind.u64.wrap sz).tmod 1001), .int .i64 ((IntKind.u64.wrap vs).tmod 1001), .int .i64 0]
    simpa using this
  case round =>
    obtain ⟨i, rfl, hi, hg, hb⟩ := hrel
    have g0 := Blk.cell hg 0
    have g1 := Blk.cell hg 1
    have g2 := Blk.cell hg 2
    have hOr := hO.below hb
    have hPr := hP.below hb
    rcases (show i = 0 ∨ i = 1 ∨ i = 2 by omega) with rfl | rfl | rfl
    · go_wp2_with (first
        | (go_at_call 12; refine (H12u.out _ hPr).mono ?_; rintro e w1 ⟨rfl, hb1⟩; have hO1 := hOr.below hb1; have hg1 := Blk.below hg hb1 (Blk.lt hg); have f0 := Blk.cell hg1 0; have f1 := Blk.cell hg1 1; have f2 := Blk.cell hg1 2)
        | (go_at_call 18; refine (H18u.out _ hO1).mono ?_; rintro e w2 ⟨rfl, hb2⟩; have hg2 := Blk.below hg1 hb2 (Blk.lt hg1)))
      go_roundw
      case rel => exact ⟨1, rfl, by omega, hg2, ntrans (ntrans hb hb1) hb2⟩
      case measure => decide
    · go_wp2_with (first
        | (go_at_call 12; refine (H12p.out _ hPr).mono ?_; rintro e w1 ⟨rfl, hb1⟩; have hO1 := hOr.below hb1; have hg1 := Blk.below hg hb1 (Blk.lt hg); have f0 := Blk.cell hg1 0; have f1 := Blk.cell hg1 1; have f2 := Blk.cell hg1 2)
        | (go_at_call 18; refine (H18p.out _ hO1).mono ?_; rintro e w2 ⟨rfl, hb2⟩; have hg2 := Blk.below hg1 hb2 (Blk.lt hg1)))
      go_roundw
      case rel => exact ⟨2, rfl, by omega, hg2, ntrans (ntrans hb hb1) hb2⟩
      case measure => decide
    · go_wp2_with (go_at_call 9; refine (l9 _ hOr).mono ?_; rintro e w3 ⟨rfl, hb3⟩)
      go_ret
      exact ⟨rfl, ntrans hb hb3⟩
end Go.Proofs.YtonhglhdbpmnhaaDoor
