/- Walk of the statement on bits of expressions. -/
import Derived.Test.YtonhglhdbpmnhaaDoorLc
import Derived.Laws.Concat
namespace Go.Proofs.YtonhglhdbpmnhaaDoor
open Go.RowKit

def bitsL : List ByteArray := [⟨#[49]⟩, ⟨#[48]⟩, ⟨#[49, 50]⟩, ⟨#[49, 46, 53]⟩, ⟨#[46, 50, 53]⟩, ⟨#[49, 48, 48, 48, 48, 48, 48, 48, 48, 48]⟩, ⟨#[57, 57, 57, 57, 57, 57, 57, 57, 57]⟩, ⟨#[51, 46, 48, 48, 48, 48, 48, 48, 48, 48, 49]⟩, ⟨#[105]⟩, ⟨#[112]⟩, ⟨#[80]⟩, ⟨#[117]⟩, ⟨#[99]⟩, ⟨#[109]⟩, ⟨#[110]⟩, ⟨#[118]⟩, ⟨#[43]⟩, ⟨#[45]⟩, ⟨#[42]⟩, ⟨#[47]⟩, ⟨#[37]⟩, ⟨#[60]⟩, ⟨#[62]⟩, ⟨#[61]⟩, ⟨#[61, 61]⟩, ⟨#[60, 61]⟩, ⟨#[62, 61]⟩, ⟨#[38]⟩, ⟨#[58]⟩, ⟨#[40]⟩, ⟨#[41]⟩, ⟨#[33]⟩, ⟨#[124]⟩, ⟨#[32]⟩, ⟨#[46]⟩, ⟨#[120]⟩, ⟨#[50]⟩, ⟨#[55]⟩]
def bitsA : Array Value := (bitsL.map Value.string).toArray
theorem bitsA_at (j : Nat) (h : j < 38) : ∃ b : ByteArray, bitsA[j]? = some (.string b) ∧ b.size ≤ 11 := by
  have hl : j < bitsL.length := h
  have hb : ∀ b ∈ bitsL, b.size ≤ 11 := by decide
  refine ⟨bitsL[j], ?_, hb _ (List.getElem_mem hl)⟩
  show (bitsL.map Value.string).toArray[j]? = _
  simp [hl]
/-- 11: bits. -/
theorem l11 (w : World) : Calls Tryd.prog 11 #[] w fun e w' => ∃ g, e = .returned (.slice (some ⟨g, 0, none⟩) 38 38) ∧ Blk w' g 9 bitsA ∧ w.heap.size ≤ g ∧ Below w.heap.size w w' := by
  go_enter Tryd.func11, Tryd.ntmps11
  go_wp2
  go_ret
  exact ⟨w.heap.size, rfl, Blk.new _ _ _, Nat.le_refl _, (Below.refl _ _).alloc (Nat.le_refl _) _⟩
theorem cell_lt {w : World} {a : Addr} {v : Value} (h : w.cell? a = some v) : a.block < w.heap.size := by
  rcases Nat.lt_or_ge a.block w.heap.size with h' | h'
  · exact h'
  · simp [World.cell?, Array.getElem?_eq_none h'] at h
def R4 (len : Nat) (v8 v9 : Value) : Prop := ∃ (i : Nat) (S : ByteArray), v9 = .int .i64 i ∧ v8 = .string S ∧ i ≤ len ∧ i ≤ 60 ∧ S.size ≤ 11 * i
/-- 4: the statement, of a slice that is one. -/
theorem l4 (a : Addr) (len cap : Nat) (sz vs here n : Int) (w : World) (hO : OpsAt w) (_hlen : len ≤ maxLen) (hcell : ∀ i, i < len → ∃ z, w.cell? (a.add i) = some (.int .i64 z)) :
    Calls Tryd.prog 4 #[.slice (some a) len cap, .agg #[.int .i64 sz, .int .i64 vs, .int .i64 here], .int .i64 n] w fun e w' => e = .returned (.bool true) ∧ Below w.heap.size w w' := by
  unfold maxLen at _hlen
  have hO1 := hO.alloc (.cells #[.int .i64 sz, .int .i64 vs, .int .i64 here] 23)
  have kB0 := Blk.new w 23 #[.int .i64 sz, .int .i64 vs, .int .i64 here]
  go_enter Tryd.func4, Tryd.ntmps4
  go_wp2_with (first
    | (go_at_call 11; refine (l11 _).mono ?_; rintro e w1 ⟨g, rfl, hg, hgs, hb1⟩))
  have r1 := (BC.init 23 sz vs here w).below hb1
  obtain ⟨p0, p1, p2, _⟩ := r1.keep
  have hOw := hO1.below hb1
  have us := urem sz 1001 (by omega)
  have uv := urem vs 1001 (by omega)
  have uh := urem here 100001 (by omega)
  have un := urem n 8 (by omega)
  have H10 := Lib.hid (fun (S : ByteArray) (hS : S.size ≤ 100000) => l10 S hS ((IntKind.u64.wrap sz).tmod 1001) ((IntKind.u64.wrap vs).tmod 1001) ((IntKind.u64.wrap here).tmod 100001) ((IntKind.u64.wrap n).tmod 8 - 8) w1 hOw (by omega) (by omega))
  go_loop [8, 9] (fun v8 v9 => R4 len v8 v9) (fun _ v9 => 60 - (intOf v9).toNat)
  case atStart => exact ⟨0, ⟨#[]⟩, rfl, rfl, Nat.zero_le _, Nat.zero_le _, Nat.le_refl _⟩
  case round =>
    obtain ⟨i, S, rfl, rfl, hi, hi6, hS⟩ := hrel
    by_cases hlt : i < len
    · obtain ⟨z, hz⟩ := hcell i hlt
      have hab := (Blk.lt hg)
      have hz1 : w1.cell? (a.add i) = some (.int .i64 z) := by
        have hblt : (a.add i).block < w.heap.size := cell_lt hz
        rw [← hz]
        exact (nbox hb1).cell hblt
      have hu := urem z 38 (by omega)
      obtain ⟨b, hb, hbs⟩ := bitsA_at ((IntKind.u64.wrap z).tmod 38).toNat (by omega)
      have hb2 : w1.cell? ⟨g, ((IntKind.u64.wrap z).tmod 38).toNat, none⟩ = some (.string b) := (Blk.cell hg _).trans hb
      go_wp2_with (first
        | (go_at_call 10; refine (H10.out S (by omega)).mono ?_; rintro e w2 ⟨rfl, hb2⟩; have hO2 := hOw.below hb2)
        | (go_at_call 9; refine (l9 _ hO2).mono ?_; rintro e w3 ⟨rfl, hb3⟩))
      · have h60 : (i : Int) < 60 := by assumption
        go_roundw
        case rel => exact ⟨i + 1, S ++ b, by simp, rfl, by omega, by omega, by rw [ByteArray.size_append]; omega⟩
        case measure =>
          show 60 - ((i : Int) + 1).toNat < 60 - ((i : Int)).toNat
          omega
      · go_ret
        exact ⟨rfl, ntrans (ntrans r1.2 hb2) hb3⟩
    · go_wp2_with (first
        | (go_at_call 10; refine (H10.out S (by omega)).mono ?_; rintro e w2 ⟨rfl, hb2⟩; have hO2 := hOw.below hb2)
        | (go_at_call 9; refine (l9 _ hO2).mono ?_; rintro e w3 ⟨rfl, hb3⟩))
      go_ret
      exact ⟨rfl, ntrans (ntrans r1.2 hb2) hb3⟩
/-- 4: the statement, of no slice. -/
theorem l4n (sz vs here n : Int) (w : World) (hO : OpsAt w) :
    Calls Tryd.prog 4 #[.slice none 0 0, .agg #[.int .i64 sz, .int .i64 vs, .int .i64 here], .int .i64 n] w fun e w' => e = .returned (.bool true) ∧ Below w.heap.size w w' := by
  have hO1 := hO.alloc (.cells #[.int .i64 sz, .int .i64 vs, .int .i64 here] 23)
  have us := urem sz 1001 (by omega)
  have uv := urem vs 1001 (by omega)
  have uh := urem here 100001 (by omega)
  have un := urem n 8 (by omega)
  go_enter Tryd.func4, Tryd.ntmps4
  go_wp2_with (first
    | (go_at_call 11; refine (l11 _).mono ?_; rintro e w1 ⟨g, rfl, hg, hgs, hb1⟩))
  have r1 := (BC.init 23 sz vs here w).below hb1
  obtain ⟨p0, p1, p2, _⟩ := r1.keep
  have hOw := hO1.below hb1
  have H10 := Lib.hid (l10 ⟨#[]⟩ (by decide) ((IntKind.u64.wrap sz).tmod 1001) ((IntKind.u64.wrap vs).tmod 1001) ((IntKind.u64.wrap here).tmod 100001) ((IntKind.u64.wrap n).tmod 8 - 8) w1 hOw (by omega) (by omega))
  go_loop [8, 9] (fun v8 v9 => v8 = .string ⟨#[]⟩ ∧ v9 = .int .i64 0) (fun _ _ => 0)
  case atStart => exact ⟨rfl, rfl⟩
  case round =>
    obtain ⟨rfl, rfl⟩ := hrel
    go_wp2_with (first
      | (go_at_call 10; refine H10.out.mono ?_; rintro e w2 ⟨rfl, hb2⟩; have hO2 := hOw.below hb2)
      | (go_at_call 9; refine (l9 _ hO2).mono ?_; rintro e w3 ⟨rfl, hb3⟩))
    go_ret
    exact ⟨rfl, ntrans (ntrans r1.2 hb2) hb3⟩
/-- What a row's slice of whole numbers is. -/
def Ints (w : World) (v : Value) : Prop := v = .slice none 0 0 ∨ ∃ (a : Addr) (len cap : Nat), v = .slice (some a) len cap ∧ len ≤ cap ∧ cap ≤ maxLen ∧ ∀ i, i < len → ∃ z, w.cell? (a.add i) = some (.int .i64 z) ∧ (Lit.int .i64 z).wf = true
theorem l4v (v : Value) (sz vs here n : Int) (w : World) (hO : OpsAt w) (hv : Ints w v) :
    Calls Tryd.prog 4 #[v, .agg #[.int .i64 sz, .int .i64 vs, .int .i64 here], .int .i64 n] w fun e w' => e = .returned (.bool true) ∧ Below w.heap.size w w' := by
  rcases hv with rfl | ⟨a, len, cap, rfl, hl, hm, hc⟩
  · exact l4n sz vs here n w hO
  · exact l4 a len cap sz vs here n w hO (Nat.le_trans hl hm) fun i hi => by
      obtain ⟨z, hz, _⟩ := hc i hi
      exact ⟨z, hz⟩
end Go.Proofs.YtonhglhdbpmnhaaDoor
