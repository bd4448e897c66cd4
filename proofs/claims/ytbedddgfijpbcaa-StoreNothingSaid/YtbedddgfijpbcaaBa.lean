/- Walk: whether deeds are too big (which answer comes is not asked). -/
import Derived.Test.YtbedddgfijpbcaaDa
import Derived.BigQuiet
namespace Go.Proofs.Ytbedddgfijpbcaa
open Go.RowKit

theorem belowN {B : Nat} {a w : World} (h : Below B a w) (n : Nat) : Below B a (w.drewN n) := h.trans ⟨rfl, rfl, rfl, Nat.le_refl _, fun _ _ => rfl⟩
/-- A bool is answered. -/
def SomeB (e : Ending) : Prop := ∃ b, e = .returned (.bool b)
set_option maxRecDepth 100000 in
set_option maxHeartbeats 1000000 in
/-- big. -/
theorem lBig (v : Value) (ds : List Dd) (w : World) (h : DdsAt (fun k => k < w.heap.size) w v ds) :
    Calls Try.prog 19 #[v] w fun e w' => SomeB e ∧ Below w.heap.size w w' := by
  obtain ⟨A, cap, rfl, a1, a2, a3⟩ := h
  have HA := Lib.hid a3
  clear a3
  unfold maxLen at a2
  go_enter Try.func19, Try.ntmps19
  go_wp2_with fail
  go_loopw [3, 4] (fun v3 v4 wr => ∃ (n : Int) (i : Nat) (m : Nat), i ≤ ds.length ∧ v3 = .int .i64 n ∧ v4 = .int .i64 i ∧ wr = w.drewN m) (fun v3 v4 _ => ds.length - (intOf v4).toNat)
  case atStart => exact ⟨0, 0, 0, Nat.zero_le _, rfl, rfl, rfl⟩
  case round =>
    obtain ⟨n, i, m, hi, rfl, rfl, rfl⟩ := hrel
    by_cases hgo : i < ds.length ∧ n < 6000
    · obtain ⟨hlt, hn⟩ := hgo
      obtain ⟨g, off, rfl, _, hr⟩ := HA.out (by omega)
      have hx : ds[i]? = some ds[i] := List.getElem?_eq_getElem hlt
      have q := hr i _ hx
      obtain ⟨vl, c4, A2, cap2, rfl, b1, b2, b3⟩ := q.c4
      have c3 := q.c3
      have hz3 := q.z3
      have hz4 := q.z4
      have HB := Lib.hid b3
      clear q hr hx b3
      generalize ds[i] = d at *
      go_wp2
      go_quiet (fail)
      go_wp2
      go_loopw [3, 5] (fun v3 v5 wr => ∃ (n : Int) (k : Nat) (m : Nat), k ≤ d.lines.length ∧ v3 = .int .i64 n ∧ v5 = .int .i64 k ∧ wr = w.drewN m) (fun v3 v5 _ => d.lines.length - (intOf v5).toNat)
      case atStart => exact ⟨_, 0, m + nq, Nat.zero_le _, rfl, rfl, by first | rfl | simp⟩
      case round =>
        obtain ⟨n, k, m, hk, rfl, rfl, rfl⟩ := hrel
        by_cases hgo2 : k < d.lines.length ∧ n < 6000
        · obtain ⟨hlt2, hn2⟩ := hgo2
          obtain ⟨g2, off2, rfl, _, hr2⟩ := HB.out (by omega)
          have hx2 : d.lines[k]? = some d.lines[k] := List.getElem?_eq_getElem hlt2
          have q2 := hr2 k _ hx2
          obtain ⟨vb, e4, A3, cap3, rfl, _, _, _⟩ := q2.c4
          have e0 := q2.c0
          have hs4 := q2.s4
          have hs0 := q2.s0
          unfold maxLen at hs0
          clear q2 hr2 hx2
          generalize d.lines[k] = l at *
          go_wp2
          go_quiet (fail)
          go_wp2
          go_roundw
          case rel => exact ⟨_, k + 1, _, by omega, rfl, by go_num, rfl⟩
          case measure => simp [intOf]; omega
        · by_cases hlt2 : k < d.lines.length
          · have hn2 : ¬ n < 6000 := fun h => hgo2 ⟨hlt2, h⟩
            go_wp2
            go_roundw
            case rel => exact ⟨_, i + 1, _, by omega, rfl, by go_num, rfl⟩
            case measure => simp [intOf]; omega
          · go_wp2
            go_roundw
            case rel => exact ⟨_, i + 1, _, by omega, rfl, by go_num, rfl⟩
            case measure => simp [intOf]; omega
    · by_cases hlt : i < ds.length
      · have hn : ¬ n < 6000 := fun h => hgo ⟨hlt, h⟩
        go_wp2
        go_ret
        exact ⟨⟨_, rfl⟩, belowN (Below.refl _ _) _⟩
      · by_cases h6 : 6000 ≤ n
        · go_wp2
          go_ret
          exact ⟨⟨_, rfl⟩, belowN (Below.refl _ _) _⟩
        · go_wp2
          go_ret
          exact ⟨⟨_, rfl⟩, belowN (Below.refl _ _) _⟩
end Go.Proofs.Ytbedddgfijpbcaa
