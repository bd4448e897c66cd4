/- Walks: how the code writes a number by a format. -/
import Derived.Test.YtaamjccffkdlhaaGreatDoorRd
import Derived.Test.YtaamjccffkdlhaaGreatDoorRc
import Derived.Test.YtaamjccffkdlhaaGreatDoorRf
import Derived.Test.YtaamjccffkdlhaaGreatDoorRg
import Derived.Lib.AppendIntMem
import Derived.Lib.SmallJoins
import Derived.Lib.ItoaMem
namespace Go.Proofs.YtaamjccffkdlhaaGreatDoor
open Go.RowKit

theorem dec_dig (n : Nat) : Lib.decDigits n = digL n := by
  induction n using Nat.strongRecOn with
  | ind n ih =>
    rw [Lib.decDigits, digL]
    by_cases h : n < 10
    · rw [dif_pos h, dif_pos h]
    · rw [dif_neg h, dif_neg h, ih (n / 10) (by omega)]
theorem itoa_dig (n : Nat) : Lib.itoa (n : Int) = digL n := by rw [Lib.itoa_nonneg, dec_dig]
def padL (k : Nat) (l : List UInt8) : List UInt8 := List.replicate (k - l.length) 48 ++ l
theorem rep_eq (c : Nat) : Lib.repeatL [48] c = List.replicate c 48 := by
  induction c with
  | zero => rfl
  | succ c ih => rw [Lib.repeatL, ih]; rfl
/-- The table of powers of ten, as the library's contract asks it. -/
def PowAt (w : World) : Prop := Lib.TabIs Tryz.prog w "internal/strconv.uint64pow10" .u64 Lib.pow10Tab
theorem gPow : Tryz.prog.globalNamed "internal/strconv.uint64pow10" = some 5 := by kernel_rfl
theorem PowAt.below {w w' : World} (h : PowAt w) (hb : Below w.heap.size w w') : PowAt w' := Joins.tab_stays gPow h hb (Nat.le_refl _)
/-- strconv.Itoa, of no negative number. -/
theorem cItoa (n : Nat) (h1 : n ≤ 9223372036854775807) (w : World) (hP : PowAt w) : Calls Tryz.prog 82 #[.int .i64 n] w fun e w' => e = .returned (.string ⟨(digL n).toArray⟩) ∧ Below w.heap.size w w' := by
  refine (Tryz.strconv_Itoa n (by omega) (by omega) w hP).mono ?_
  rintro e w' ⟨rfl, k, os, rfl⟩
  refine ⟨?_, Lib.below_grow _ w (Nat.le_refl _) k os⟩
  rw [← itoa_dig]
theorem cRep (c : Nat) (h : c ≤ 1000) (w : World) : Calls Tryz.prog 83 #[.string ⟨#[48]⟩, .int .i64 c] w fun e w' => e = .returned (.string ⟨(List.replicate c 48).toArray⟩) ∧ Below w.heap.size w w' := by
  refine (Tryz.strings_Repeat ⟨#[48]⟩ c w (by omega) (by show 1 * c ≤ _; omega)).mono ?_
  rintro e w' ⟨rfl, hb⟩
  exact ⟨by rw [show (⟨#[48]⟩ : ByteArray).data.toList = [48] from rfl, rep_eq], hb⟩
theorem mk_size (l : List UInt8) : (⟨l.toArray⟩ : ByteArray).size = l.length := rfl
/-- decimal. -/
theorem cDec (n k : Nat) (hn : n ≤ 9223372036854775807) (hk : k ≤ 9) (w : World) (hP : PowAt w) :
    Calls Tryz.prog 69 #[.int .i64 n, .int .i64 k] w fun e w' => e = .returned (.string ⟨(padL k (digL n)).toArray⟩) ∧ Below w.heap.size w w' := by
  have hl := digL_small hn
  have hsz : (⟨(digL n).toArray⟩ : ByteArray).size = (digL n).length := rfl
  have HI := Lib.hid (fun w hP => cItoa n hn w hP)
  have HS : Hid ((⟨(digL n).toArray⟩ : ByteArray).data.toList = digL n) := Lib.hid (by simp)
  have H0 : Hid ((⟨(padL k (digL n)).toArray⟩ : ByteArray) = ⟨(List.replicate (k - (digL n).length) 48).toArray⟩ ++ ⟨(digL n).toArray⟩) := Lib.hid (ba_eq (by rw [app_data]; simp [padL]))
  have HR := Lib.hid (fun w => cRep (k - (digL n).length) (by omega) w)
  have hm : (⟨(List.replicate (k - (digL n).length) (48 : UInt8)).toArray⟩ : ByteArray).size ≤ 9 := by rw [mk_size]; simp; omega
  generalize (⟨(List.replicate (k - (digL n).length) (48 : UInt8)).toArray⟩ : ByteArray) = Z at H0 HR hm
  generalize (⟨(digL n).toArray⟩ : ByteArray) = S at HI HS hsz H0
  rw [H0.out]
  have HZ := Lib.hid hsz
  have hsl : S.size ≤ 19 := by omega
  have ka := fun (w : World) => run_string_add_sum (P := Tryz.prog) w Z S (by omega)
  have hcast : ((k - (digL n).length : Nat) : Int) = max 0 ((k : Int) - (S.size : Int)) := by omega
  rw [hcast] at HR
  clear hcast hsz hl
  go_enter Tryz.func69, Tryz.ntmps69
  go_wp2_with (first
    | (go_at_call 82; with_reducible refine (HI.out _ hP).mono ?_; rintro e w1 ⟨rfl, hb1⟩)
    | (go_at_call 83; with_reducible refine (HR.out _).mono ?_; rintro e w2 ⟨rfl, hb2⟩))
  go_ret
  exact ⟨rfl, ntrans hb1 hb2⟩
end Go.Proofs.YtaamjccffkdlhaaGreatDoor
