/- Walk: the statement on a full store. -/
import Derived.Test.YtbedddgfijpbcaaQt
namespace Go.Proofs.Ytbedddgfijpbcaa
open Go.RowKit Go.Maps Go.WideMaps

theorem u64_mod (n : Int) (k : Nat) (hk : 0 < k) (hk2 : k ≤ 1000000000) : ∃ m : Nat, m < k ∧ wrap64 ((IntKind.u64.wrap n).tmod (k : Int)) = m := by
  have h0 : 0 ≤ IntKind.u64.wrap n := by
    show 0 ≤ n % 18446744073709551616
    omega
  rw [Int.tmod_eq_emod_of_nonneg h0]
  have h1 := Int.emod_nonneg (IntKind.u64.wrap n) (show (k : Int) ≠ 0 by omega)
  have h2 := Int.emod_lt_of_pos (IntKind.u64.wrap n) (show (0 : Int) < (k : Int) by omega)
  refine ⟨(IntKind.u64.wrap n % (k : Int)).toNat, by omega, ?_⟩
  unfold wrap64
  omega
def RFl (g bm : Nat) (w : World) (v4 : Value) (wr : World) : Prop :=
  ∃ (i : Nat) (L : List Ent) (E : Nat → En), i ≤ 500 ∧ v4 = .int .i64 i ∧ St w.heap.size w wr g bm L E ∧ Fill i L
set_option maxRecDepth 100000 in
set_option maxHeartbeats 1000000 in
/-- StoreFull. -/
theorem lFull (n : Int) (w : World) : Calls Try.prog 7 #[.int .i64 n] w fun e w' => e = .returned (.bool true) ∧ Below w.heap.size w w' := by
  obtain ⟨d, hd, hy⟩ := u64_mod n 500 (by omega) (by omega)
  have hy' : wrap64 ((IntKind.u64.wrap n).tmod 500) = (d : Int) := hy
  clear hy
  have HNew := Lib.hid (sNew (b := w.heap.size) (w0 := w) (w := w) E0 (Below.refl _ _) (Nat.le_refl _))
  have HS := Lib.hid (fun w => lSane w)
  go_enter Try.func7, Try.ntmps7
  go_wp2_with (go_at_call 10; refine HNew.out.mono ?_; rintro e w1 ⟨g, bm, rfl, hk1⟩)
  go_loopw [4] (fun v4 wr => RFl g bm w v4 wr) (fun v4 _ => 500 - (intOf v4).toNat)
  case atStart => exact ⟨0, [], E0, by omega, rfl, hk1, fill_0⟩
  case round =>
    clear hk1
    obtain ⟨i, L, E, hi, rfl, hk, hF⟩ := hrel
    by_cases hi5 : i < 500
    · have hw1 : IntKind.u8.wrap (97 + (i : Int) / 26) = 97 + (i : Int) / 26 := by show (97 + (i : Int) / 26) % 256 = _; omega
      have hw2 : IntKind.u8.wrap (97 + (i : Int) % 26) = 97 + (i : Int) % 26 := by show (97 + (i : Int) % 26) % 256 = _; omega
      have kc := kB2
      have ka := fun (w : World) => run_string_add_sum (P := Try.prog) w ⟨#[110]⟩ (b2 (97 + (i : Int) / 26) (97 + (i : Int) % 26)) (by show 1 + 2 ≤ _; omega)
      have hbl : Below w1.heap.size w1 w1 := Below.refl _ _
      have HDef : Hid (∀ w, St w.heap.size w w g bm L E → True) := Lib.hid (fun _ _ => trivial)
      have HD := Lib.hid (fun (w2 : World) (hb : Below wr.heap.size wr w2) => gNew (hk.below hb) hF hi5)
      unfold nmG at HD
      clear hk hF HDef hbl
      go_wp2_with (go_at_call 11; refine (HD.out _ ((Below.refl _ _).alloc (Nat.le_refl _) _)).mono ?_; rintro e w3 ⟨rfl, L', E', hk3, hF3⟩)
      go_roundw
      case rel => exact ⟨i + 1, L', E', by omega, by go_num, hk3, hF3⟩
      case measure => simp [intOf]; omega
    · obtain rfl : i = 500 := by omega
      have hw1 : IntKind.u8.wrap (97 + (d : Int) / 26) = 97 + (d : Int) / 26 := by show (97 + (d : Int) / 26) % 256 = _; omega
      have hw2 : IntKind.u8.wrap (97 + (d : Int) % 26) = 97 + (d : Int) % 26 := by show (97 + (d : Int) % 26) % 256 = _; omega
      have kc := kB2
      have ka := fun (w : World) => run_string_add_sum (P := Try.prog) w ⟨#[110]⟩ (b2 (97 + (d : Int) / 26) (97 + (d : Int) % 26)) (by show 1 + 2 ≤ _; omega)
      have hmo := fill_more hF
      have hol := fill_old hF hd
      have hle := hF.1
      have H0 := Lib.hid (fun (w2 : World) (hb : Below wr.heap.size wr w2) => gOne (hk.below hb))
      have H1 := Lib.hid (fun (w2 : World) (hk : St w.heap.size w w2 g bm L E) => gMore ⟨#[120]⟩ (by decide) tX (by decide) more_ok hmo hle hk)
      have H2 := Lib.hid (fun (w2 : World) (hk : St w.heap.size w w2 g bm L E) => gAli hol hmo hle hk)
      have H3 := Lib.hid (fun (w2 : World) (hk : St w.heap.size w w2 g bm L E) => gMac hmo hle hk)
      have H4 := Lib.hid (fun (w2 : World) (hk : St w.heap.size w w2 g bm L E) => gApp hmo hle hk)
      have H5 := Lib.hid (fun (w2 : World) (hk : St w.heap.size w w2 g bm L E) => gOld hd hol hk)
      have H6 := Lib.hid (fun (w2 : World) (E' : Nat → En) (hk : St w.heap.size w w2 g bm L E') => gRen hol hmo hle hk)
      have H7 := Lib.hid (fun (w2 : World) (L' : List Ent) (E' : Nat → En) (hl : L'.length = 500) (hh : hasB L' (nmG d) = false) (hk : St w.heap.size w w2 g bm L' E') => gMore ⟨#[122]⟩ (by decide) tZ (by rw [nmG_size]; decide) (nmG_ok hd) hh hl hk)
      have hnd : nmG d = ⟨#[110]⟩ ++ b2 (97 + (d : Int) / 26) (97 + (d : Int) % 26) := rfl
      have HNd := Lib.hid hnd
      rw [← hnd] at ka
      clear hk hF hmo hol hle hnd
      go_wp2_with (first
        | (go_at_call 11; with_reducible refine (H0.out _ ((Below.refl _ _).alloc (Nat.le_refl _) _)).mono ?_; rintro e w2 ⟨rfl, hk⟩; have k2 := Lib.hid hk; clear hk)
        | (go_at_call 11; with_reducible refine (H1.out _ k2.out).mono ?_; rintro e w3 ⟨rfl, hk⟩; have k3 := Lib.hid hk; clear hk)
        | (go_at_call 20; with_reducible refine (H2.out _ k3.out).mono ?_; rintro e w4 ⟨rfl, hk⟩; have k4 := Lib.hid hk; clear hk)
        | (go_at_call 15; with_reducible refine (H3.out _ k4.out).mono ?_; rintro e w5 ⟨rfl, hk⟩; have k5 := Lib.hid hk; clear hk)
        | (go_at_call 12; with_reducible refine (H4.out _ k5.out).mono ?_; rintro e w6 ⟨rfl, hk⟩; have k6 := Lib.hid hk; clear hk)
        | (go_at_call 11; with_reducible refine (H5.out _ k6.out).mono ?_; rintro e w7 ⟨rfl, E', hk⟩; have k7 := Lib.hid hk; clear hk)
        | (go_at_call 28; with_reducible refine (H6.out _ _ k7.out).mono ?_; rintro e w8 ⟨rfl, L', hk, hl, hh⟩; have k8 := Lib.hid hk; have l8 := Lib.hid hl; have h8 := Lib.hid hh; clear hk hl hh)
        | (go_at_call 11; with_reducible refine (H7.out _ _ _ l8.out h8.out k8.out).mono ?_; rintro e w9 ⟨rfl, hk⟩; have k9 := Lib.hid hk; clear hk)
        | (go_at_call 9; refine (HS.out _).mono ?_; rintro e w10 ⟨rfl, hb⟩; have hB := Lib.hid (ntrans k9.out.out hb); clear hb))
      go_ret
      exact ⟨rfl, hB.out⟩
end Go.Proofs.Ytbedddgfijpbcaa
