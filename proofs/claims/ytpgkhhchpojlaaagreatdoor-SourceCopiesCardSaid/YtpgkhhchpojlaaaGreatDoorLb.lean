/- Walk: whether deeds are too big; what is known of those that are not. -/
import Derived.Test.YtpgkhhchpojlaaaGreatDoorDa
import Derived.BigQuiet
namespace Go.Proofs.YtpgkhhchpojlaaaGreatDoor
open Go.RowKit

theorem belowN2 {B : Nat} {a w : World} (h : Below B a w) (n : Nat) : Below B a (w.drewN n) := h.trans ⟨rfl, rfl, rfl, Nat.le_refl _, fun _ _ => rfl⟩
/-- A bool is answered; false: few deeds, and few lines. -/
def FewB (ds : List Dd) (e : Ending) : Prop := ∃ b, e = .returned (.bool b) ∧ (b = false → ds.length ≤ 150 ∧ ∀ d ∈ ds, d.text.size + d.lines.length + d.args.length ≤ 8000)
set_option maxRecDepth 100000 in
set_option maxHeartbeats 1000000 in
/-- big. -/
theorem lBig2 (v : Value) (ds : List Dd) (w : World) (h : DdsAt (fun k => k < w.heap.size) w v ds) :
    Calls Tryz.prog 5 #[v] w fun e w' => FewB ds e ∧ Below w.heap.size w w' := by
  obtain ⟨A, cap, rfl, a1, a2, a3⟩ := h
  have HA := Lib.hid a3
  clear a3
  unfold maxLen at a2
  go_enter Tryz.func5, Tryz.ntmps5
  go_wp2_with fail
  go_loopw [3, 4] (fun v3 v4 wr => ∃ (n : Int) (i : Nat) (m : Nat), i ≤ ds.length ∧ v3 = .int .i64 n ∧ v4 = .int .i64 i ∧ wr = w.drewN m ∧ 0 ≤ n ∧ n ≤ 1000000000000000 ∧ Hid (n < 8000 → ∀ (j : Nat) d, ds[j]? = some d → j < i → d.text.size + d.lines.length + d.args.length ≤ 8000)) (fun v3 v4 _ => ds.length - (intOf v4).toNat)
  case atStart => exact ⟨0, 0, 0, Nat.zero_le _, rfl, rfl, rfl, by omega, by omega, Lib.hid (fun _ j d _ h => absurd h (Nat.not_lt_zero _))⟩
  case round =>
    obtain ⟨n, i, m, hi, rfl, rfl, rfl, hn0, hn1, HJ⟩ := hrel
    by_cases hgo : i < ds.length ∧ n < 8000
    · obtain ⟨hlt, hn⟩ := hgo
      obtain ⟨g, off, rfl, _, hr⟩ := HA.out (by omega)
      have hx : ds[i]? = some ds[i] := List.getElem?_eq_getElem hlt
      have q := hr i _ hx
      obtain ⟨vl, c3, A2, cap2, rfl, b1, b2, b3⟩ := q.c3
      obtain ⟨vs, c4, A4, cap4, rfl, _, _, _⟩ := q.c4
      have c2 := q.c2
      have hz3 := q.z2
      have hz4 := q.z3
      have hz5 := q.z4
      have HB := Lib.hid b3
      have HX := Lib.hid hx
      clear q hr hx b3
      generalize ds[i] = d at *
      have hw1 : IntKind.i64.wrap ((d.text.size : Int) + (d.lines.length : Int)) = (d.text.size : Int) + (d.lines.length : Int) := IntWalk.i64_in _ (by omega)
      have hw3 : IntKind.i64.wrap ((d.text.size : Int) + (d.lines.length : Int) + (d.args.length : Int)) = (d.text.size : Int) + (d.lines.length : Int) + (d.args.length : Int) := IntWalk.i64_in _ (by omega)
      have hw2 : IntKind.i64.wrap (n + ((d.text.size : Int) + (d.lines.length : Int) + (d.args.length : Int))) = n + ((d.text.size : Int) + (d.lines.length : Int) + (d.args.length : Int)) := IntWalk.i64_in _ (by omega)
      go_wp2
      go_quiet (fail)
      go_wp2
      clear hw1 hw2 hw3
      go_loopw [3, 5] (fun v3 v5 wr => ∃ (n : Int) (k : Nat) (m : Nat), k ≤ d.lines.length ∧ v3 = .int .i64 n ∧ v5 = .int .i64 k ∧ wr = w.drewN m ∧ 0 ≤ n ∧ n ≤ 1000000000000000 ∧ ((d.text.size + d.lines.length + d.args.length : Nat) : Int) ≤ n) (fun v3 v5 _ => d.lines.length - (intOf v5).toNat)
      case atStart => exact ⟨n + ((d.text.size : Int) + (d.lines.length : Int) + (d.args.length : Int)), 0, m + nq, Nat.zero_le _, by first | rfl | trace_state, rfl, by first | rfl | simp, by omega, by omega, by omega⟩
      case round =>
        obtain ⟨n2, k, m, hk, rfl, rfl, rfl, hm0, hm1, hm2⟩ := hrel
        by_cases hgo2 : k < d.lines.length ∧ n2 < 8000
        · obtain ⟨hlt2, hn2⟩ := hgo2
          obtain ⟨g2, off2, rfl, _, hr2⟩ := HB.out (by omega)
          have hx2 : d.lines[k]? = some d.lines[k] := List.getElem?_eq_getElem hlt2
          have q2 := hr2 k _ hx2
          obtain ⟨vb, e4, A3, cap3, rfl, _, _, _⟩ := q2.c4
          have e0 := q2.c0
          have hs4 := q2.s4
          have hs0 := q2.s0
          clear q2 hr2 hx2
          generalize d.lines[k] = l at *
          have hw1 : IntKind.i64.wrap ((l.text.size : Int) + (l.boxes.length : Int)) = (l.text.size : Int) + (l.boxes.length : Int) := IntWalk.i64_in _ (by omega)
          have hw2 : IntKind.i64.wrap (n2 + ((l.text.size : Int) + (l.boxes.length : Int))) = n2 + ((l.text.size : Int) + (l.boxes.length : Int)) := IntWalk.i64_in _ (by omega)
          go_wp2
          go_quiet (fail)
          go_wp2
          go_roundw
          case rel => exact ⟨n2 + ((l.text.size : Int) + (l.boxes.length : Int)), k + 1, _, by omega, by first | rfl | trace_state, by go_num, rfl, by omega, by omega, by omega⟩
          case measure => simp [intOf]; omega
        · have HJ2 : Hid (n2 < 8000 → ∀ (j : Nat) d, ds[j]? = some d → j < i + 1 → d.text.size + d.lines.length + d.args.length ≤ 8000) := Lib.hid (fun h j d' hj hji => by
            by_cases e : j = i
            · subst e
              rw [HX.out] at hj
              injection hj with hj
              rw [← hj]; omega
            · exact HJ.out hn j d' hj (by omega))
          clear HJ
          by_cases hlt2 : k < d.lines.length
          · have hn2 : ¬ n2 < 8000 := fun h => hgo2 ⟨hlt2, h⟩
            go_wp2
            go_roundw
            case rel => exact ⟨_, i + 1, _, by omega, rfl, by go_num, rfl, hm0, hm1, HJ2⟩
            case measure => simp [intOf]; omega
          · go_wp2
            go_roundw
            case rel => exact ⟨_, i + 1, _, by omega, rfl, by go_num, rfl, hm0, hm1, HJ2⟩
            case measure => simp [intOf]; omega
    · by_cases hlt : i < ds.length
      · have hn : ¬ n < 8000 := fun h => hgo ⟨hlt, h⟩
        clear HJ
        go_wp2
        go_ret
        exact ⟨⟨_, rfl, fun h => by cases h⟩, belowN2 (Below.refl _ _) _⟩
      · by_cases h6 : 8000 ≤ n
        · clear HJ
          go_wp2
          go_ret
          exact ⟨⟨_, rfl, fun h => by cases h⟩, belowN2 (Below.refl _ _) _⟩
        · have hall : ∀ d ∈ ds, d.text.size + d.lines.length + d.args.length ≤ 8000 := fun d hd => by
            obtain ⟨j, hj⟩ := List.getElem?_of_mem hd
            exact HJ.out (by omega) j d hj (by have := (List.getElem?_eq_some_iff.1 hj).1; omega)
          have HAll := Lib.hid hall
          clear hall HJ
          by_cases h15 : 150 < ds.length
          · have h15' : (150 : Int) < (ds.length : Nat) := by omega
            go_wp2
            go_ret
            exact ⟨⟨_, rfl, fun h => absurd h (by simp)⟩, belowN2 (Below.refl _ _) _⟩
          · go_wp2
            go_ret
            exact ⟨⟨_, rfl, fun _ => ⟨by omega, HAll.out⟩⟩, belowN2 (Below.refl _ _) _⟩
end Go.Proofs.YtpgkhhchpojlaaaGreatDoor
