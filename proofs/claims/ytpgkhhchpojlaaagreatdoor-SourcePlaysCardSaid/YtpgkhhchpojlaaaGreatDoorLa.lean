/- Walks: whether numbers, lines, texts are the same. -/
import Derived.Test.YtpgkhhchpojlaaaGreatDoorKz
import Derived.Deep.RegionHeld3
import Derived.Deep.CutRange
namespace Go.Proofs.YtpgkhhchpojlaaaGreatDoor
open Go.RowKit

/-- numbers, of the same. -/
theorem lNums (K K2 : Nat → Prop) (v v2 : Value) (l : List Int) (w : World) (h : NsAt K w v l) (h2 : NsAt K2 w v2 l) :
    Calls Tryz.prog 65 #[v, v2] w fun e w' => e = .returned (.bool true) ∧ Below w.heap.size w w' := by
  obtain ⟨A, cap, rfl, a1, a2, a3⟩ := h
  obtain ⟨A2, cap2, rfl, b1, b2, b3⟩ := h2
  have HA := Lib.hid a3
  have HB := Lib.hid b3
  clear a3 b3
  unfold maxLen at a2 b2
  have hne : ((l.length : Int) != (l.length : Int)) = false := by simp
  go_enter Tryz.func65, Tryz.ntmps65
  go_wp2_with fail
  go_loopw [5] (fun v5 wr => ∃ k : Nat, k ≤ l.length ∧ v5 = .int .i64 k ∧ ∃ n : Nat, wr = w.drewN n) (fun v5 _ => l.length - (intOf v5).toNat)
  case atStart => exact ⟨0, Nat.zero_le _, rfl, 0, rfl⟩
  case round =>
    obtain ⟨k, hk, rfl, n, rfl⟩ := hrel
    by_cases hlt : k < l.length
    · obtain ⟨g, off, rfl, _, hr⟩ := HA.out (by omega)
      obtain ⟨g2, off2, rfl, _, hr2⟩ := HB.out (by omega)
      have hx : l[k]? = some l[k] := List.getElem?_eq_getElem hlt
      have c0 := hr k _ hx
      have d0 := hr2 k _ hx
      unfold numR at c0 d0
      rw [Nat.mul_one] at c0 d0
      have HX := Lib.hid hx
      clear hr hr2 hx
      generalize l[k] = x at *
      have hxx : (x != x) = false := by simp
      go_wp2
      go_quiet (fail)
      go_wp2
      go_roundw
      case rel => exact ⟨k + 1, by omega, by go_num, _, rfl⟩
      case measure => simp [intOf]; omega
    · go_wp2
      go_ret
      exact ⟨rfl, below_drewN (Below.refl _ _) _⟩
def lnCs (l : Ln) (v : Value) : Array Value := #[.string l.text, .bool l.made, .int .i64 l.up, .int .i64 l.down, v]
def bxCs (b : Bx) (v : Value) : Array Value := #[.int .i64 b.kind, .int .i64 b.width, .int .i64 b.font, .int .i64 b.size, .string b.name, .string b.colour, v]
set_option maxHeartbeats 1000000 in
set_option maxRecDepth 100000 in
/-- SameLines, of the same. -/
theorem lSame (K K2 : Nat → Prop) (v v2 : Value) (ls : List Ln) (w : World) (h : LnsAt K w v ls) (h2 : LnsAt K2 w v2 ls) (hK : ∀ k, K k → k < w.heap.size) (hK2 : ∀ k, K2 k → k < w.heap.size) :
    Calls Tryz.prog 32 #[v, v2] w fun e w' => e = .returned (.bool true) ∧ Below w.heap.size w w' := by
  obtain ⟨A, cap, rfl, a1, a2, a3⟩ := h
  obtain ⟨A2, cap2, rfl, b1, b2, b3⟩ := h2
  have HA := Lib.hid a3
  have HB := Lib.hid b3
  have HKA := Lib.hid hK
  have HKB := Lib.hid hK2
  clear a3 b3 hK hK2
  unfold maxLen at a2 b2
  have hne : ((ls.length : Int) != (ls.length : Int)) = false := by simp
  go_enter Tryz.func32, Tryz.ntmps32
  go_wp2_with fail
  go_loopw [5] (fun v5 wr => ∃ k : Nat, k ≤ ls.length ∧ v5 = .int .i64 k ∧ Below w.heap.size w wr) (fun v5 _ => ls.length - (intOf v5).toNat)
  case atStart => exact ⟨0, Nat.zero_le _, rfl, Below.refl _ _⟩
  case round =>
    obtain ⟨k, hk, rfl, hb⟩ := hrel
    by_cases hlt : k < ls.length
    · obtain ⟨g, off, rfl, hKg, hr⟩ := HA.out (by omega)
      obtain ⟨g2, off2, rfl, hKg2, hr2⟩ := HB.out (by omega)
      have hx : ls[k]? = some ls[k] := List.getElem?_eq_getElem hlt
      have q := (hr k _ hx).stay (K' := K) hKg (Kept.of_below hb HKA.out) (fun _ h => h)
      have q2 := (hr2 k _ hx).stay (K' := K2) hKg2 (Kept.of_below hb HKB.out) (fun _ h => h)
      obtain ⟨vb, c4, hbx⟩ := q.c4
      obtain ⟨vb2, d4, hbx2⟩ := q2.c4
      have c0 := q.c0
      have c1 := q.c1
      have c2 := q.c2
      have c3 := q.c3
      have d0 := q2.c0
      have d1 := q2.c1
      have d2 := q2.c2
      have d3 := q2.c3
      clear q q2 hr hr2 hx
      generalize ls[k] = l at *
      obtain ⟨Ab, capb, rfl, hn1, hn2⟩ := hbx.back
      obtain ⟨Ab2, capb2, rfl, hn3, hn4⟩ := hbx2.back
      have HBx := Lib.hid hbx
      have HBx2 := Lib.hid hbx2
      have HBel := Lib.hid hb
      clear hbx hbx2 hb
      go_wp2_with fail
      go_cut [6, 7] from 16 to 129 (fun v6 v7 wx => ∃ x y, v6 = .pointer (some ⟨x, 0, none⟩) ∧ v7 = .pointer (some ⟨y, 0, none⟩) ∧ Blk wx x 31 (lnCs l (.slice Ab l.boxes.length capb)) ∧ Blk wx y 31 (lnCs l (.slice Ab2 l.boxes.length capb2)) ∧ Below wr.heap.size wr wx)
      case first =>
        go_region_held3 (fun w' => w'.cell? ⟨g, off + k * 5, none⟩ = some (.string l.text) ∧ w'.cell? ⟨g, off + k * 5 + 1, none⟩ = some (.bool l.made) ∧ w'.cell? ⟨g, off + k * 5 + 2, none⟩ = some (.int .i64 l.up) ∧ w'.cell? ⟨g, off + k * 5 + 3, none⟩ = some (.int .i64 l.down) ∧ w'.cell? ⟨g, off + k * 5 + 4, none⟩ = some (.slice Ab l.boxes.length capb) ∧
            w'.cell? ⟨g2, off2 + k * 5, none⟩ = some (.string l.text) ∧ w'.cell? ⟨g2, off2 + k * 5 + 1, none⟩ = some (.bool l.made) ∧ w'.cell? ⟨g2, off2 + k * 5 + 2, none⟩ = some (.int .i64 l.up) ∧ w'.cell? ⟨g2, off2 + k * 5 + 3, none⟩ = some (.int .i64 l.down) ∧ w'.cell? ⟨g2, off2 + k * 5 + 4, none⟩ = some (.slice Ab2 l.boxes.length capb2)) (go_keep) (fail)
        all_goals go_wp2
        all_goals go_meet
        all_goals first
          | exact ⟨wr.heap.size, wr.heap.size + 1, rfl, rfl, ((Blk.new wr 31 _).alloc _).drew, (by have := Blk.new (wr.alloc (.cells (lnCs l (.slice Ab l.boxes.length capb)) 31)) 31 (lnCs l (.slice Ab2 l.boxes.length capb2)); rw [show (wr.alloc (.cells (lnCs l (.slice Ab l.boxes.length capb)) 31)).heap.size = wr.heap.size + 1 by simp] at this; exact this.drew), (((Below.refl wr.heap.size wr).alloc (Nat.le_refl _) _).alloc (by simp) _).drew⟩
          | exact ⟨wr.heap.size + 1, wr.heap.size, rfl, rfl, (by have := Blk.new (wr.alloc (.cells (lnCs l (.slice Ab2 l.boxes.length capb2)) 31)) 31 (lnCs l (.slice Ab l.boxes.length capb)); rw [show (wr.alloc (.cells (lnCs l (.slice Ab2 l.boxes.length capb2)) 31)).heap.size = wr.heap.size + 1 by simp] at this; exact this.drew), ((Blk.new wr 31 _).alloc _).drew, (((Below.refl wr.heap.size wr).alloc (Nat.le_refl _) _).alloc (by simp) _).drew⟩
      case rest =>
        obtain ⟨x, y, rfl, rfl, hbx, hby, hbc⟩ := hcut
        have x0 := hbx.cell 0
        have x1 := hbx.cell 1
        have x2 := hbx.cell 2
        have x3 := hbx.cell 3
        have x4 := hbx.cell 4
        have y0 := hby.cell 0
        have y1 := hby.cell 1
        have y2 := hby.cell 2
        have y3 := hby.cell 3
        have y4 := hby.cell 4
        unfold lnCs at x0 x1 x2 x3 x4 y0 y1 y2 y3 y4
        simp only [List.getElem?_toArray, List.getElem?_cons_zero, List.getElem?_cons_succ] at x0 x1 x2 x3 x4 y0 y1 y2 y3 y4
        have HX := Lib.hid hbx
        have HY := Lib.hid hby
        have HC := Lib.hid hbc
        clear hbx hby hbc c0 c1 c2 c3 c4 d0 d1 d2 d3 d4
        unfold maxLen at hn2 hn4
        have e1 : (l.text.toList != l.text.toList) = false := by simp
        have e2 : (l.made != l.made) = false := by simp
        have e3 : (l.up != l.up) = false := by simp
        have e4 : (l.down != l.down) = false := by simp
        have e5 : ((l.boxes.length : Int) != (l.boxes.length : Int)) = false := by simp
        have HKx : Hid (∀ i, K i → i < wr.heap.size) := Lib.hid (fun i hi => Nat.lt_of_lt_of_le (HKA.out i hi) HBel.out.size)
        have HKy : Hid (∀ i, K2 i → i < wr.heap.size) := Lib.hid (fun i hi => Nat.lt_of_lt_of_le (HKB.out i hi) HBel.out.size)
        go_wp2_with fail
        clear x0 x1 x2 x3 x4 y0 y1 y2 y3 y4
        go_loopw [8] (fun v8 wi => ∃ m : Nat, m ≤ l.boxes.length ∧ v8 = .int .i64 m ∧ Below wr.heap.size wr wi ∧ Blk wi x 31 (lnCs l (.slice Ab l.boxes.length capb)) ∧ Blk wi y 31 (lnCs l (.slice Ab2 l.boxes.length capb2))) (fun v8 _ => l.boxes.length - (intOf v8).toNat)
        case atStart => exact ⟨0, Nat.zero_le _, rfl, HC.out, HX.out, HY.out⟩
        case round =>
          clear HX HY HC
          obtain ⟨m, hm, rfl, hbi, hxi, hyi⟩ := hrel
          have x4 := hxi.cell 4
          have y4 := hyi.cell 4
          unfold lnCs at x4 y4
          simp only [List.getElem?_toArray, List.getElem?_cons_zero, List.getElem?_cons_succ] at x4 y4
          by_cases hml : m < l.boxes.length
          · obtain ⟨_, _, eA, _, _, hra⟩ := HBx.out
            obtain ⟨_, _, eB, _, _, hrb⟩ := HBx2.out
            injection eA with eA1 _ eA2
            injection eB with eB1 _ eB2
            subst eA1 eA2 eB1 eB2
            obtain ⟨p, o, rfl, hKp, hr⟩ := hra (by omega)
            obtain ⟨p2, o2, rfl, hKp2, hr2⟩ := hrb (by omega)
            have hx : l.boxes[m]? = some l.boxes[m] := List.getElem?_eq_getElem hml
            have q := (hr m _ hx).stay (K' := K) hKp (Kept.of_below hbi HKx.out) (fun _ h => h)
            have q2 := (hr2 m _ hx).stay (K' := K2) hKp2 (Kept.of_below hbi HKy.out) (fun _ h => h)
            obtain ⟨vn, c6, hn⟩ := q.c6
            obtain ⟨vn2, d6, hn2'⟩ := q2.c6
            have c0 := q.c0
            have c1 := q.c1
            have c2 := q.c2
            have c3 := q.c3
            have c4 := q.c4
            have c5 := q.c5
            have d0 := q2.c0
            have d1 := q2.c1
            have d2 := q2.c2
            have d3 := q2.c3
            have d4 := q2.c4
            have d5 := q2.c5
            clear q q2 hr hr2 hx hra hrb
            have HXi := Lib.hid hxi
            have HYi := Lib.hid hyi
            have HBi := Lib.hid hbi
            clear hxi hyi hbi
            generalize l.boxes[m] = bx at *
            obtain ⟨An, capn, rfl, hn5, hn6⟩ := hn.back
            obtain ⟨An2, capn2, rfl, hn7, hn8⟩ := hn2'.back
            have HN := Lib.hid hn
            have HN2 := Lib.hid hn2'
            clear hn hn2'
            go_wp2_with fail
            go_cut [9, 10] from 65 to 129 (fun v9 v10 wx => ∃ u z, v9 = .pointer (some ⟨u, 0, none⟩) ∧ v10 = .pointer (some ⟨z, 0, none⟩) ∧ Blk wx u 83 (bxCs bx (.slice An bx.n.length capn)) ∧ Blk wx z 83 (bxCs bx (.slice An2 bx.n.length capn2)) ∧ Below wr.heap.size wr wx)
            case first =>
              go_region_held3 (fun w' => w'.cell? ⟨x, 4, none⟩ = some (.slice (some ⟨p, o, none⟩) l.boxes.length capb) ∧ w'.cell? ⟨y, 4, none⟩ = some (.slice (some ⟨p2, o2, none⟩) l.boxes.length capb2) ∧
                  w'.cell? ⟨p, o + m * 7, none⟩ = some (.int .i64 bx.kind) ∧ w'.cell? ⟨p, o + m * 7 + 1, none⟩ = some (.int .i64 bx.width) ∧ w'.cell? ⟨p, o + m * 7 + 2, none⟩ = some (.int .i64 bx.font) ∧ w'.cell? ⟨p, o + m * 7 + 3, none⟩ = some (.int .i64 bx.size) ∧ w'.cell? ⟨p, o + m * 7 + 4, none⟩ = some (.string bx.name) ∧ w'.cell? ⟨p, o + m * 7 + 5, none⟩ = some (.string bx.colour) ∧ w'.cell? ⟨p, o + m * 7 + 6, none⟩ = some (.slice An bx.n.length capn) ∧
                  w'.cell? ⟨p2, o2 + m * 7, none⟩ = some (.int .i64 bx.kind) ∧ w'.cell? ⟨p2, o2 + m * 7 + 1, none⟩ = some (.int .i64 bx.width) ∧ w'.cell? ⟨p2, o2 + m * 7 + 2, none⟩ = some (.int .i64 bx.font) ∧ w'.cell? ⟨p2, o2 + m * 7 + 3, none⟩ = some (.int .i64 bx.size) ∧ w'.cell? ⟨p2, o2 + m * 7 + 4, none⟩ = some (.string bx.name) ∧ w'.cell? ⟨p2, o2 + m * 7 + 5, none⟩ = some (.string bx.colour) ∧ w'.cell? ⟨p2, o2 + m * 7 + 6, none⟩ = some (.slice An2 bx.n.length capn2)) (go_keep) (fail)
              all_goals go_wp2
              all_goals go_meet
              all_goals first
                | exact ⟨wr.heap.size, wr.heap.size + 1, rfl, rfl, ((Blk.new wr 83 _).alloc _).drew, (by have := Blk.new (wr.alloc (.cells (bxCs bx (.slice An bx.n.length capn)) 83)) 83 (bxCs bx (.slice An2 bx.n.length capn2)); rw [show (wr.alloc (.cells (bxCs bx (.slice An bx.n.length capn)) 83)).heap.size = wr.heap.size + 1 by simp] at this; exact this.drew), (((Below.refl wr.heap.size wr).alloc (Nat.le_refl _) _).alloc (by simp) _).drew⟩
                | exact ⟨wr.heap.size + 1, wr.heap.size, rfl, rfl, (by have := Blk.new (wr.alloc (.cells (bxCs bx (.slice An2 bx.n.length capn2)) 83)) 83 (bxCs bx (.slice An bx.n.length capn)); rw [show (wr.alloc (.cells (bxCs bx (.slice An2 bx.n.length capn2)) 83)).heap.size = wr.heap.size + 1 by simp] at this; exact this.drew), ((Blk.new wr 83 _).alloc _).drew, (((Below.refl wr.heap.size wr).alloc (Nat.le_refl _) _).alloc (by simp) _).drew⟩
            case rest =>
              obtain ⟨u, z, rfl, rfl, hbu, hbz, hbc⟩ := hcut
              have u0 := hbu.cell 0
              have u1 := hbu.cell 1
              have u2 := hbu.cell 2
              have u3 := hbu.cell 3
              have u4' := hbu.cell 4
              have u5 := hbu.cell 5
              have u6 := hbu.cell 6
              have z0 := hbz.cell 0
              have z1 := hbz.cell 1
              have z2 := hbz.cell 2
              have z3 := hbz.cell 3
              have z4 := hbz.cell 4
              have z5 := hbz.cell 5
              have z6 := hbz.cell 6
              unfold bxCs at u0 u1 u2 u3 u4' u5 u6 z0 z1 z2 z3 z4 z5 z6
              simp only [List.getElem?_toArray, List.getElem?_cons_zero, List.getElem?_cons_succ] at u0 u1 u2 u3 u4' u5 u6 z0 z1 z2 z3 z4 z5 z6
              have HCc := Lib.hid hbc
              have hNum := lNums (fun i => K i) (fun i => K2 i) _ _ _ wc (HN.out.stay (Kept.of_below hbc (fun i hi => Nat.lt_of_lt_of_le (HKx.out i hi) HBi.out.size)) (fun _ h => h)) (HN2.out.stay (Kept.of_below hbc (fun i hi => Nat.lt_of_lt_of_le (HKy.out i hi) HBi.out.size)) (fun _ h => h))
              have HNum := Lib.hid hNum
              clear hbu hbz hbc hNum c0 c1 c2 c3 c4 c5 c6 d0 d1 d2 d3 d4 d5 d6 x4 y4
              have e1 : (bx.kind != bx.kind) = false := by simp
              have e2 : (bx.width != bx.width) = false := by simp
              have e3 : (bx.font != bx.font) = false := by simp
              have e4 : (bx.size != bx.size) = false := by simp
              have e5 : (bx.name.toList != bx.name.toList) = false := by simp
              have e6 : (bx.colour.toList != bx.colour.toList) = false := by simp
              go_wp2_with (go_at_call 65; refine HNum.out.mono ?_; rintro e w9 ⟨rfl, hb9⟩)
              go_roundw
              case rel =>
                have hbt := HCc.out.trans (hb9.mono HCc.out.size)
                exact ⟨m + 1, by omega, by go_num, HBi.out.trans (hbt.mono HBi.out.size), HXi.out.below hbt HXi.out.lt, HYi.out.below hbt HYi.out.lt⟩
              case measure => simp [intOf]; omega
          · go_wp2
            go_roundw
            case rel => exact ⟨k + 1, by omega, by go_num, HBel.out.trans (hbi.mono HBel.out.size)⟩
            case measure => simp [intOf]; omega
    · go_wp2
      go_ret
      exact ⟨rfl, hb⟩
/-- texts, of the same. -/
theorem lTexts (K K2 : Nat → Prop) (v v2 : Value) (l : List ByteArray) (w : World) (h : SsAt K w v l) (h2 : SsAt K2 w v2 l) :
    Calls Tryz.prog 33 #[v, v2] w fun e w' => e = .returned (.bool true) ∧ Below w.heap.size w w' := by
  obtain ⟨A, cap, rfl, a1, a2, a3⟩ := h
  obtain ⟨A2, cap2, rfl, b1, b2, b3⟩ := h2
  have HA := Lib.hid a3
  have HB := Lib.hid b3
  clear a3 b3
  unfold maxLen at a2 b2
  have hne : ((l.length : Int) != (l.length : Int)) = false := by simp
  go_enter Tryz.func33, Tryz.ntmps33
  go_wp2_with fail
  go_loopw [5] (fun v5 wr => ∃ k : Nat, k ≤ l.length ∧ v5 = .int .i64 k ∧ ∃ n : Nat, wr = w.drewN n) (fun v5 _ => l.length - (intOf v5).toNat)
  case atStart => exact ⟨0, Nat.zero_le _, rfl, 0, rfl⟩
  case round =>
    obtain ⟨k, hk, rfl, n, rfl⟩ := hrel
    by_cases hlt : k < l.length
    · obtain ⟨g, off, rfl, _, hr⟩ := HA.out (by omega)
      obtain ⟨g2, off2, rfl, _, hr2⟩ := HB.out (by omega)
      have hx : l[k]? = some l[k] := List.getElem?_eq_getElem hlt
      have c0 := (hr k _ hx).1
      have d0 := (hr2 k _ hx).1
      rw [Nat.mul_one] at c0 d0
      have HX := Lib.hid hx
      clear hr hr2 hx
      generalize l[k] = x at *
      have hxx : (x.toList != x.toList) = false := by simp
      go_wp2
      go_quiet (fail)
      go_wp2
      go_roundw
      case rel => exact ⟨k + 1, by omega, by go_num, _, rfl⟩
      case measure => simp [intOf]; omega
    · go_wp2
      go_ret
      exact ⟨rfl, rfl, rfl, rfl, Nat.le_refl _, fun _ _ => rfl⟩
end Go.Proofs.YtpgkhhchpojlaaaGreatDoor
