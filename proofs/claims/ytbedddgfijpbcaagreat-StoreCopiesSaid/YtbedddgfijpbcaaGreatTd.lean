/- Walk: Part, of the document's store. -/
import Derived.Test.YtbedddgfijpbcaaGreatTb
import Derived.Deep.DeepCutAuto
namespace Go.Proofs.YtbedddgfijpbcaaGreat
open Go.RowKit Go.Maps Go.WideMaps

section
variable {U K : Nat → Prop} {w w' : World} {x : Nat} {M : List Ent} {es : List En}
theorem cut_none (en : En) (a : Nat) : en.cut a a = en.cut 0 0 := by
  cases en with
  | str t =>
    show En.str (t.extract a a) = En.str (t.extract 0 0)
    congr 1
    apply ByteArray.ext
    apply Array.ext'
    have e1 : (t.extract a a).data.toList = [] := List.length_eq_zero_iff.1 (by
      have : (t.extract a a).size = 0 := by rw [ByteArray.size_extract]; omega
      exact this)
    have e2 : (t.extract 0 0).data.toList = [] := List.length_eq_zero_iff.1 (by
      have : (t.extract 0 0).size = 0 := by rw [ByteArray.size_extract]; omega
      exact this)
    rw [e1, e2]
  | mac ls =>
    show En.mac ((ls.take a).drop a) = En.mac ((ls.take 0).drop 0)
    congr 1
    apply List.length_eq_zero_iff.1
    rw [List.length_drop, List.length_take]; omega
/-- What the document's Part cuts out is what is kept. -/
theorem part_cut (en : En) (lo hi : Int) : ∃ f t : Nat, f ≤ t ∧ t ≤ en.size ∧ en.cut f t = en.kept lo hi ∧ (max lo 0 > min hi ((en.size : Nat) - 1) → f = 0 ∧ t = 0) ∧ (¬ max lo 0 > min hi ((en.size : Nat) - 1) → (f : Int) = max lo 0 ∧ (t : Int) - 1 = min hi ((en.size : Nat) - 1)) := by
  unfold En.kept kBeg kEnd
  by_cases h : max lo 0 > min hi ((en.size : Nat) - 1)
  · refine ⟨0, 0, Nat.le_refl _, Nat.zero_le _, ?_, fun _ => ⟨rfl, rfl⟩, fun h' => absurd h h'⟩
    have : (max 0 (min lo (max 0 (min hi ((en.size : Nat) - 1) + 1)))).toNat = (max 0 (min hi ((en.size : Nat) - 1) + 1)).toNat := by omega
    rw [this, cut_none en (max 0 (min hi ((en.size : Nat) - 1) + 1)).toNat]
  · refine ⟨(max lo 0).toNat, (min hi ((en.size : Nat) - 1) + 1).toNat, by omega, by omega, ?_, fun h' => absurd h' h, fun _ => ⟨by omega, by omega⟩⟩
    congr 1 <;> omega
set_option maxRecDepth 100000 in
set_option maxHeartbeats 2000000 in
/-- Part. -/
theorem nPart (s : ByteArray) (a b : Int) (ha1 : -9223372036854775808 ≤ a) (hbb1 : -9223372036854775808 ≤ b) (ha2 : a ≤ 9223372036854775807) (hbb2 : b ≤ 9223372036854775807) (h : RSt U K w x M es) :
    Calls Tryz.prog 32 #[.pointer (some ⟨x, 0, none⟩), .string s, .int .i64 a, .int .i64 b] w fun e w' => e = .returned (.int .i64 (fdE M s)) ∧ RTo U K w w' x M (if hasB M s then es.set (getR M s) (ptE (eF es (getR M s)) a b) else es) := by
  have hT := nThere s h
  unfold fdE at hT ⊢
  cases hh : hasB M s
  · rw [hh] at hT
    simp only [Bool.false_eq_true, if_false] at hT ⊢
    have HT := Lib.hid hT
    have HS := Lib.hid (RTo.same h (Below.refl _ w))
    clear hT h ha1 hbb1 ha2 hbb2
    go_enter Tryz.func32, Tryz.ntmps32
    go_wp2_with (go_at_call 56; refine HT.out.mono ?_; rintro e w1 ⟨rfl, rfl⟩)
    go_ret
    exact ⟨rfl, HS.out⟩
  · rw [hh] at hT
    simp only [if_true] at hT ⊢
    have HT := Lib.hid hT
    have hat := h.at_ hh
    obtain ⟨k, hk⟩ : ∃ k : Nat, getR M s = k := ⟨_, rfl⟩
    simp only [hk] at HT hat ⊢
    have hat : @LT.lt Nat _ k es.length := hat
    obtain ⟨g, c, v, c2, hc, d0, d1, hl, ho⟩ := h.q2 k hat
    have HZ := Lib.hid (nSize _ v hl h.sets.2.2)
    obtain ⟨A, nn, cc, rfl⟩ : ∃ A n c, v = .slice A n c := by
      obtain ⟨A, c, e, _⟩ := hl
      exact ⟨A, _, c, e⟩
    have hsz : (eF es k).size ≤ 2000 := by
      cases hE : eF es k with
      | str t => rw [hE] at ho; exact ho
      | mac ls => rw [hE] at ho; exact ho
    have HCut := Lib.hid (fun (f t : Nat) (hft : f ≤ t) (ht : t ≤ (eF es k).size) (w1 : World) (hb : Below w.heap.size w w1) => nCut (K := K) (eF es k) (.slice A nn cc) f t hft ht ho (hl.stay (Kept.of_all hb) (fun _ h => h)) (fun i hi => Nat.lt_of_lt_of_le (h.sets.2.2 i hi) hb.size))
    have HC2 := Lib.hid (fun (w1 : World) (hb : Below w.heap.size w w1) => (⟨(hb.cell (p := ⟨x, 2, none⟩) (cell_lt c2)).trans c2, (hb.cell (p := ⟨g, k * 2, none⟩) (cell_lt d0)).trans d0, (hb.cell (p := ⟨g, k * 2 + 1, none⟩) (cell_lt d1)).trans d1⟩ : w1.cell? ⟨x, 2, none⟩ = some (.slice (some ⟨g, 0, none⟩) es.length c) ∧ w1.cell? ⟨g, k * 2, none⟩ = some (.int .i64 (eF es k).kind) ∧ w1.cell? ⟨g, k * 2 + 1, none⟩ = some (.slice A nn cc)))
    have HSet := Lib.hid (fun (f t : Nat) (ht : t ≤ (eF es k).size) (w1 w3 : World) (A2 : Option Addr) (n2 c2' : Nat) (hb1 : Below w.heap.size w w1) (hb : Below w1.heap.size w1 w3) (hl2 : LnsAt (fun i => K i ∨ w1.heap.size ≤ i ∧ i < w3.heap.size) w3 (.slice A2 n2 c2') (enL ((eF es k).cut f t))) =>
      h.setAt (en := (eF es k).cut f t) hat c2 (ntrans hb1 hb) (hl2.stay (fun _ _ _ => rfl) (fun i hi => hi.imp id (fun h => ⟨Nat.le_trans hb1.size h.1, h.2⟩))) (cut_ok ho ht))
    simp only [cut_kind] at HSet
    have HSpec := Lib.hid (part_cut (eF es k))
    unfold ptE
    generalize hkd : (eF es k).kind = kd at *
    generalize hzz : (eF es k).size = z at *
    generalize eF es k = en at *
    clear hT h hk hh hl hkd hzz ho
    obtain ⟨f, t, q1, q2, q3, q4, q5⟩ := HSpec.out (min (plI a z) (plI b z)) (max (plI a z) (plI b z))
    rw [← q3]
    clear HSpec q3
    have hw1 : a < 0 → IntKind.i64.wrap (a + (z : Int)) = a + (z : Int) := fun h => IntWalk.i64_in _ (by omega)
    have hw2 : b < 0 → IntKind.i64.wrap (b + (z : Int)) = b + (z : Int) := fun h => IntWalk.i64_in _ (by omega)
    have HW1 := Lib.hid hw1
    have HW2 := Lib.hid hw2
    clear hw1 hw2
    go_enter Tryz.func32, Tryz.ntmps32
    go_upto_if 30 with (first
        | (go_at_call 56; refine HT.out.mono ?_; rintro e w1 ⟨rfl, rfl⟩)
        | (go_at_call 58; refine HZ.out.mono ?_; rintro e w2 ⟨rfl, hb2⟩; obtain ⟨x2, y0, y1⟩ := HC2.out _ hb2))
    go_cut [2] from 13 (fun v2 wx => v2 = .int .i64 (plI a z) ∧ wx = w2)
    case first =>
      by_cases ha0 : a < 0
      · have hw := HW1.out ha0
        go_wp2_with fail
        go_meet
        case rel => exact ⟨by unfold plI; rw [if_pos ha0], rfl⟩
      · go_wp2_with fail
        go_meet
        case rel => exact ⟨by unfold plI; rw [if_neg (by omega)], rfl⟩
    case rest =>
      obtain ⟨rfl, rfl⟩ := hcut
      have hA1 : -9223372036854775808 ≤ plI a z ∧ plI a z ≤ 9223372036854775807 := by unfold plI; split <;> omega
      generalize plI a z = pa at *
      clear HW1 ha1 ha2
      go_upto_if 35 with fail
      go_cut [3] from 13 (fun v3 wx => v3 = .int .i64 (plI b z) ∧ wx = wc)
      case first =>
        by_cases ha0 : b < 0
        · have hw := HW2.out ha0
          go_wp2_with fail
          go_meet
          case rel => exact ⟨by unfold plI; rw [if_pos ha0], rfl⟩
        · go_wp2_with fail
          go_meet
          case rel => exact ⟨by unfold plI; rw [if_neg (by omega)], rfl⟩
      case rest =>
        obtain ⟨rfl, rfl⟩ := hcut
        have hB1 : -9223372036854775808 ≤ plI b z ∧ plI b z ≤ 9223372036854775807 := by unfold plI; split <;> omega
        generalize plI b z = pb at *
        clear HW2 hbb1 hbb2
        go_upto_if 41 with fail
        go_cut [2, 3] from 13 (fun v2 v3 wx => v2 = .int .i64 (min pa pb) ∧ v3 = .int .i64 (max pa pb) ∧ wx = wc)
        case first =>
          by_cases hab : pb < pa
          · go_wp2_with fail
            go_meet
            case rel => exact ⟨by congr 1; omega, by congr 1; omega, rfl⟩
          · go_wp2_with fail
            go_meet
            case rel => exact ⟨by congr 1; omega, by congr 1; omega, rfl⟩
        case rest =>
          obtain ⟨rfl, rfl, rfl⟩ := hcut
          have hl1 : -9223372036854775808 ≤ min pa pb ∧ min pa pb ≤ 9223372036854775807 := by omega
          have hl2 : -9223372036854775808 ≤ max pa pb ∧ max pa pb ≤ 9223372036854775807 := by omega
          generalize min pa pb = lo at *
          generalize max pa pb = hi at *
          clear hA1 hB1
          go_upto_if 48 with fail
          go_cut [3] from 13 (fun v3 wx => v3 = .int .i64 (min hi ((z : Int) - 1)) ∧ wx = wc)
          case first =>
            by_cases hhz : (z : Int) ≤ hi
            · go_wp2_with fail
              go_meet
              case rel => exact ⟨by congr 1; omega, rfl⟩
            · go_wp2_with fail
              go_meet
              case rel => exact ⟨by congr 1; omega, rfl⟩
          case rest =>
            obtain ⟨rfl, rfl⟩ := hcut
            generalize min hi ((z : Int) - 1) = hi2 at *
            go_upto_if 53 with fail
            go_cut [2, 3] from 13 (fun v2 v3 wx => v2 = .int .i64 (f : Nat) ∧ v3 = .int .i64 ((t : Int) - 1) ∧ wx = wc)
            case first =>
              by_cases hft : hi2 < max lo 0
              · obtain ⟨rfl, rfl⟩ := q4 hft
                go_wp2_with fail
                go_meet
                case rel => exact ⟨rfl, rfl, rfl⟩
              · obtain ⟨e1, e2⟩ := q5 (by omega)
                go_wp2_with fail
                go_meet
                case rel => exact ⟨by rw [e1], by rw [e2], rfl⟩
            case rest =>
              obtain ⟨rfl, rfl, rfl⟩ := hcut
              have hw : IntKind.i64.wrap (t : Int) = (t : Int) := IntWalk.i64_in _ (by omega)
              have ht2 : t ≤ 2000 := by omega
              have HC := Lib.hid (HCut.out f t q1 q2)
              have HS := Lib.hid (HSet.out f t q2)
              have HB2 := Lib.hid hb2
              clear HCut HSet q1 q2 q4 q5 hl1 hl2 hsz
              go_wp2_with fail
              go_region_law
                (first
                  | (go_simp; go_at_call 59; refine (HC.out _ (ntrans HB2.out ((Below.refl _ _).drew))).mono ?_; rintro r w3 ⟨A3, n3, c3, rfl, hl3, hb3⟩; have hb3' : Below wc.heap.size wc w3 := ((Below.refl wc.heap.size wc).drew).trans hb3; obtain ⟨z2, z0, z1⟩ := HC2.out _ (ntrans HB2.out hb3'); obtain ⟨⟨v0, v1, b0, b1⟩, f0, f1, hR⟩ := HS.out wc w3 A3 n3 c3 HB2.out hb3' hl3))
              all_goals
                have HR := Lib.hid hR
                clear hR
                go_wp2
                go_ret
                exact ⟨rfl, HR.out⟩
end
end Go.Proofs.YtbedddgfijpbcaaGreat
