/- Walk of the statements' list: texts, of the same. -/
import Derived.Test.YtfcbpehgkpmniaaDoorAa
namespace Go.Proofs.YtfcbpehgkpmniaaDoor
open Go.RowKit

/-- list, of the same. -/
theorem lList (K K2 : Nat → Prop) (v v2 : Value) (l : List ByteArray) (w : World) (h : SsAt K w v l) (h2 : SsAt K2 w v2 l) :
    Calls Tryd.prog 11 #[v, v2] w fun e w' => e = .returned (.bool true) ∧ Below w.heap.size w w' := by
  obtain ⟨A, cap, rfl, a1, a2, a3⟩ := h
  obtain ⟨A2, cap2, rfl, b1, b2, b3⟩ := h2
  have HA := Lib.hid a3
  have HB := Lib.hid b3
  clear a3 b3
  unfold maxLen at a2 b2
  have hne : ((l.length : Int) != (l.length : Int)) = false := by simp
  go_enter Tryd.func11, Tryd.ntmps11
  go_wp2_with fail
  go_loopw [5] (fun v5 wr => ∃ k : Nat, k ≤ l.length ∧ v5 = .int .i64 k ∧ ∃ n : Nat, wr = w.drewN n) (fun v5 _ => l.length - (intOf v5).toNat)
  case atStart => exact ⟨0, Nat.zero_le _, rfl, 0, rfl⟩
  case round =>
    obtain ⟨k, hk, rfl, n, rfl⟩ := hrel
    by_cases hlt : k < l.length
    · obtain ⟨g, off, rfl, _, hr⟩ := HA.out (by omega)
      obtain ⟨g2, off2, rfl, _, hr2⟩ := HB.out (by omega)
      have hx : l[k]? = some l[k] := List.getElem?_eq_getElem hlt
      have c0 := (hr k _ hx).1
      have d0 := (hr2 k _ hx).1
      rw [Nat.mul_one] at c0 d0
      have HX := Lib.hid hx
      clear hr hr2 hx
      generalize l[k] = x at *
      have hxx : (x.toList != x.toList) = false := by simp
      go_wp2
      go_quiet (fail)
      go_wp2
      go_roundw
      case rel => exact ⟨k + 1, by omega, by go_num, _, rfl⟩
      case measure => simp [intOf]; omega
    · go_wp2
      go_ret
      exact ⟨rfl, rfl, rfl, rfl, Nat.le_refl _, fun _ _ => rfl⟩
end Go.Proofs.YtfcbpehgkpmniaaDoor
