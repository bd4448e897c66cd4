/- Walks of package expand: the first escape of a text. -/
import Derived.Test.YtbkcnopkibdlbaaDoorAf
namespace Go.Proofs.YtbkcnopkibdlbaaDoor
open Go.RowKit

def fdV : Option Esc → Value
  | some x => .tuple #[escV x, .bool true]
  | none => .tuple #[escV ⟨0, ⟨#[]⟩, 0, 0, 0⟩, .bool false]
/-- A new escape of find's is left alone. -/
structure FdW (w w' : World) : Prop where
  blk : Blk w' w.heap.size 65 #[.int .u8 0, .string ⟨#[]⟩, .int .i64 0, .int .i64 0, .int .i64 0]
  bel : Below w.heap.size w w'
theorem FdW.lt {w w' : World} (h : FdW w w') : w.heap.size < w'.heap.size := h.blk.lt
theorem FdW.new (w : World) : FdW w (w.alloc (.cells #[.int .u8 0, .string ⟨#[]⟩, .int .i64 0, .int .i64 0, .int .i64 0] 65)) := ⟨Blk.new _ _ _, (Below.refl _ _).alloc (Nat.le_refl _) _⟩
theorem FdW.below {w w1 w2 : World} (h : FdW w w1) (hb : Below w1.heap.size w1 w2) : FdW w w2 := ⟨h.blk.below hb h.lt, ntrans h.bel hb⟩
theorem FdW.alloc {w w1 : World} (h : FdW w w1) (o : Obj) : FdW w (w1.alloc o) := h.below ((Below.refl _ _).alloc (Nat.le_refl _) o)
theorem FdW.cells {w w' : World} (h : FdW w w') : w'.cell? ⟨w.heap.size, 0, none⟩ = some (.int .u8 0) ∧ w'.cell? ⟨w.heap.size, 1, none⟩ = some (.string ⟨#[]⟩) ∧ w'.cell? ⟨w.heap.size, 2, none⟩ = some (.int .i64 0) ∧ w'.cell? ⟨w.heap.size, 3, none⟩ = some (.int .i64 0) ∧ w'.cell? ⟨w.heap.size, 4, none⟩ = some (.int .i64 0) ∧
      (∀ i, w'.frozen? ⟨w.heap.size, i, none⟩ = false) :=
  ⟨h.blk.cell 0, h.blk.cell 1, h.blk.cell 2, h.blk.cell 3, h.blk.cell 4, fun i => h.blk.frozen i⟩
set_option maxHeartbeats 6000000 in
/-- find. -/
theorem cFd (s : ByteArray) (cp : Bool) (hs : s.size ≤ 100000) (w : World) :
    Calls Tryd.prog 28 #[.string s, .bool cp] w fun e w' => e = .returned (fdV (esF s cp)) ∧ Below w.heap.size w w' := by
  have HR : Hid (∀ i w, i + 1 < s.size → Calls Tryd.prog 39 #[.string (s.extract i s.size), .bool cp] w fun e w' => (∃ v, e = .returned v ∧ rdV (rdF (s.extract i s.size) cp) v) ∧ Below w.heap.size w w') := Lib.hid (fun i w hi => cRd (s.extract i s.size) cp (by
    rw [extract_size _ _ _ (Nat.le_refl _)]; unfold maxLen at *; omega) (by rw [extract_size _ _ _ (Nat.le_refl _)]; omega) w)
  have HZ : Hid (∀ i x, i + 1 < s.size → rdF (s.extract i s.size) cp = some x → x.z ≤ s.size - i) := Lib.hid (fun i x hi h => by
    have := (rdF_good (by rw [extract_size _ _ _ (Nat.le_refl _)]; omega) h).z
    rw [extract_size _ _ _ (Nat.le_refl _)] at this
    exact this)
  have k0 := FdW.new w
  go_enter Tryd.func28, Tryd.ntmps28
  go_wp2
  have K0 := Lib.hid k0
  clear k0
  generalize w.alloc _ = w0 at *
  go_loopw [6] (fun v6 wx => ∃ i : Nat, v6 = .int .i64 i ∧ i ≤ s.size + 1 ∧ fdF s cp i = esF s cp ∧ FdW w wx) (fun v6 wx => s.size + 1 - (intOf v6).toNat)
  case atStart => exact ⟨0, rfl, Nat.zero_le _, rfl, K0.out⟩
  case round =>
    obtain ⟨i, rfl, hi, hf, hk⟩ := hrel
    obtain ⟨p0, p1, p2, p3, p4, pf⟩ := hk.cells
    have HK := Lib.hid hk
    have HF := Lib.hid hf
    have hlt := hk.lt
    clear hf hk K0
    by_cases h : i + 1 < s.size
    · have hb : bt s i = s[i].toNat := bt_in (by omega)
      have hz := HZ.out i
      by_cases hc : (s[i].toNat : Int) = 92
      · have hB : ((s[i].toNat : Int) == 92) = true := by rw [beq_iff_eq]; omega
        have HS := Lib.hid ((fdF_step (cp := cp) h).symm.trans HF.out)
        rw [if_neg (by omega)] at HS
        have HR := Lib.hid (fun w => HR.out i w h)
        clear HF hb hc
        cases hr : rdF (s.extract i s.size) cp with
        | none =>
          rw [hr] at HS HR
          simp only at HS
          clear hz hr
          go_wp2_with (go_at_call 39; refine (HR.out _).mono ?_; rintro e w1 ⟨⟨v, rfl, c, nm, st, a, z, rfl⟩, hb⟩; have k1 := HK.out.below hb)
          go_round
          case rel => exact ⟨i + 2, by go_num, by omega, HS.out, by first | exact k1.alloc _ | skip⟩
          case measure => simp [intOf]; omega
        | some x =>
          rw [hr] at HS HR
          have hz := hz x h hr
          simp only at HS
          obtain ⟨k, nm, st, a, z⟩ := x
          simp only at *
          have HQ : Hid (fdV (esF s cp) = .tuple #[.agg #[.int .u8 k, .string nm, .int .i64 st, .int .i64 i, .int .i64 (i + z)], .bool true]) := Lib.hid (by rw [← HS.out]; unfold fdV escV; simp)
          have hk : wrap64 (i + (z : Int)) = i + z := by unfold wrap64; omega
          have HR2 : Hid (∀ w, Calls Tryd.prog 39 #[.string (s.extract i s.size), .bool cp] w fun e w' => e = .returned (.tuple #[.agg #[.int .u8 k, .string nm, .int .i64 st, .int .i64 a, .int .i64 z], .bool true]) ∧ Below w.heap.size w w') :=
            Lib.hid (fun w => (HR.out w).mono fun e w' ⟨⟨v, he, hv⟩, hb⟩ => ⟨by rw [he, show v = _ from hv]; rfl, hb⟩)
          clear hr HS HR
          go_wp2_with (go_at_call 39; refine (HR2.out _).mono ?_; rintro e w1 ⟨rfl, hb⟩; obtain ⟨p0, p1, p2, p3, p4, pf⟩ := (HK.out.below hb).cells; have hbw := (HK.out.below hb).bel; have hlt1 := (HK.out.below hb).lt; clear hb)
          refine bodyPost_ret (v := .tuple #[.agg #[.int .u8 k, .string nm, .int .i64 st, .int .i64 i, .int .i64 (i + z)], .bool true]) (by simp [results, Tryd.results28, go_sem, p0, p1, p2, p3, p4, World.cell?_alloc_lt, hlt1]) rfl ⟨by rw [HQ.out], by go_grown⟩
      · have hB : ((s[i].toNat : Int) == 92) = false := by rw [beq_eq_false_iff_ne]; omega
        have HS := Lib.hid ((fdF_step (cp := cp) h).symm.trans HF.out)
        rw [if_pos (by omega)] at HS
        clear HF hb hc hz
        go_wp2_with fail
        go_round
        case rel => exact ⟨i + 1, by go_num, by omega, HS.out, HK.out⟩
        case measure => simp [intOf]; omega
    · have he : esF s cp = none := by rw [← HF.out, fdF_end h]
      have HQ : Hid (fdV (esF s cp) = .tuple #[.agg #[.int .u8 0, .string ⟨#[]⟩, .int .i64 0, .int .i64 0, .int .i64 0], .bool false]) := Lib.hid (by rw [he]; rfl)
      clear HF he
      have hbw := HK.out.bel
      go_wp2_with fail
      refine bodyPost_ret (v := .tuple #[.agg #[.int .u8 0, .string ⟨#[]⟩, .int .i64 0, .int .i64 0, .int .i64 0], .bool false]) (by simp [results, Tryd.results28, go_sem, p0, p1, p2, p3, p4]) rfl ⟨by rw [HQ.out], by go_grown⟩
end Go.Proofs.YtbkcnopkibdlbaaDoor
