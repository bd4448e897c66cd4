/- Walks: Text of any number and letter; the statements on texts. -/
import Derived.Test.YtonhglhdbpmnhaaDoorNq
import Derived.Test.YtonhglhdbpmnhaaDoorNm
import Derived.Test.YtonhglhdbpmnhaaDoorLa
namespace Go.Proofs.YtonhglhdbpmnhaaDoor
open Go.RowKit

def uT (c : Nat) : Option Nat := if c = 117 then some 1 else if c = 112 then some 10 else if c = 80 then some 120 else if c = 105 then some 720 else none
theorem uT_ts {c U : Nat} (h : uT c = some U) : TS c U := by
  unfold uT at h
  unfold TS
  split at h
  · cases h; omega
  split at h
  · cases h; omega
  split at h
  · cases h; omega
  split at h
  · cases h; omega
  · cases h
theorem uT_none {c : Nat} (h : uT c = none) : ¬ (c = 117 ∨ c = 112 ∨ c = 80 ∨ c = 105) := by
  unfold uT at h
  split at h
  · cases h
  split at h
  · cases h
  split at h
  · cases h
  split at h
  · cases h
  · omega
/-- What Text hands back. -/
def textA (n : Int) (c : Nat) : ByteArray × Int := if n < 0 then (⟨#[]⟩, 1) else match uT c with | none => (⟨#[]⟩, 1) | some U => (textS n.toNat U c, 0)
/-- 12: Text. -/
theorem c12 (n : Int) (c : Nat) (hc : c < 256) (h1 : n ≤ 9223372036854775807) (w : World) (hP : PowAt w) :
    Calls Tryd.prog 12 #[.int .i64 n, .int .u8 c] w fun e w' => e = .returned (.tuple #[.string (textA n c).1, .int .i64 (textA n c).2]) ∧ Below w.heap.size w w' := by
  by_cases hn : n < 0
  · have hA : textA n c = (⟨#[]⟩, 1) := by unfold textA; rw [if_pos hn]
    rw [hA]
    clear hA
    go_enter Tryd.func12, Tryd.ntmps12
    go_wp2
    go_ret2
    exact ⟨rfl, Below.refl _ _⟩
  · have hn' : 0 ≤ n := by omega
    rcases hu : uT c with _ | U
    · have hA : textA n c = (⟨#[]⟩, 1) := by unfold textA; rw [if_neg hn, hu]
      have hno := uT_none hu
      have H27 := Lib.hid (fun w => c27 c hc w)
      rw [hA]
      clear hA hu
      go_enter Tryd.func12, Tryd.ntmps12
      go_wp2_with (go_at_call 27; refine (H27.out _).mono ?_; rintro e w1 ⟨⟨x, rfl, hx⟩, rfl⟩; have hx0 : x < 0 := hx.2 hno)
      go_ret2
      exact ⟨rfl, Below.refl _ _⟩
    · have hA : textA n c = (textS n.toNat U c, 0) := by unfold textA; rw [if_neg hn, hu]
      have := c12g c U n.toNat (uT_ts hu) (by omega) w hP
      rw [Int.toNat_of_nonneg hn'] at this
      rw [hA]
      exact this
set_option maxRecDepth 100000 in
/-- 14: the document's Text. -/
theorem n14 (n : Int) (c : Nat) (_hc : c < 256) (h1 : n ≤ 9223372036854775807) (w : World) :
    Calls Tryd.prog 14 #[.int .i64 n, .int .u8 c] w fun e w' => e = .returned (.tuple #[.string (textA n c).1, .int .i64 (textA n c).2]) ∧ Below w.heap.size w w' := by
  by_cases hn : n < 0
  · have hA : textA n c = (⟨#[]⟩, 1) := by unfold textA; rw [if_pos hn]
    rw [hA]
    clear hA
    go_enter Tryd.func14, Tryd.ntmps14
    go_wp2
    go_ret2
    exact ⟨rfl, Below.refl _ _⟩
  · have hn' : 0 ≤ n := by omega
    rcases hu : uT c with _ | U
    · have hA : textA n c = (⟨#[]⟩, 1) := by unfold textA; rw [if_neg hn, hu]
      have hno := uT_none hu
      have e1 : ((c : Int) != 117) = true := by simp; omega
      have e2 : ((c : Int) != 112) = true := by simp; omega
      have e3 : ((c : Int) != 80) = true := by simp; omega
      have e4 : ((c : Int) != 105) = true := by simp; omega
      rw [hA]
      clear hA hu
      go_enter Tryd.func14, Tryd.ntmps14
      go_wp2
      go_ret2
      exact ⟨rfl, Below.refl _ _⟩
    · have hA : textA n c = (textS n.toNat U c, 0) := by unfold textA; rw [if_neg hn, hu]
      rw [hA]
      have hT := uT_ts hu
      have hT' := hT
      rcases hT' with ⟨rfl, _⟩ | ⟨rfl, _⟩ | ⟨rfl, _⟩ | ⟨rfl, _⟩
      · have := n14_117 U n.toNat hT (by omega) w
        rw [Int.toNat_of_nonneg hn'] at this
        exact this
      · have := n14_112 U n.toNat hT (by omega) w
        rw [Int.toNat_of_nonneg hn'] at this
        exact this
      · have := n14_80 U n.toNat hT (by omega) w
        rw [Int.toNat_of_nonneg hn'] at this
        exact this
      · have := n14_105 U n.toNat hT (by omega) w
        rw [Int.toNat_of_nonneg hn'] at this
        exact this
/-- The letter that a number stands for. -/
def letF (n : Int) : Nat := if 0 ≤ n ∧ n < 256 then n.toNat else bt ⟨#[117, 112, 80, 105, 99, 109, 110, 118]⟩ (n % 8).toNat
theorem letF_lt (n : Int) : letF n < 256 := by
  unfold letF
  split
  · omega
  · exact bt_256 _ _
theorem letS_get {i j : Nat} (hi : i < (⟨#[117, 112, 80, 105, 99, 109, 110, 118]⟩ : ByteArray).size) (h : i = j) : ((((⟨#[117, 112, 80, 105, 99, 109, 110, 118]⟩ : ByteArray)[i]'hi).toNat : Nat) : Int) = (bt ⟨#[117, 112, 80, 105, 99, 109, 110, 118]⟩ j : Nat) := by
  subst h
  rw [bt_get hi]
/-- 13: letter, told. -/
theorem l13f (n : Int) (w : World) (_h1 : -9223372036854775808 ≤ n) (_h2 : n ≤ 9223372036854775807) : Calls Tryd.prog 13 #[.int .i64 n] w fun e w' => e = .returned (.int .u8 (letF n)) ∧ w = w' := by
  have hu : 0 ≤ IntKind.u64.wrap n := by rw [IntKind.wrap_u64]; omega
  have ht1 : 0 ≤ (IntKind.u64.wrap n).tmod 8 := Int.tmod_nonneg _ hu
  have ht2 : (IntKind.u64.wrap n).tmod 8 < 8 := Int.tmod_lt_of_pos _ (by omega)
  go_enter Tryd.func13, Tryd.ntmps13
  go_wp2
  · have k1 : n < 256 := by assumption
    have k2 : 0 ≤ n := by assumption
    go_ret
    refine ⟨ret_i ?_, rfl⟩
    unfold letF
    rw [if_pos ⟨k2, k1⟩]
    show n = _
    omega
  all_goals
    go_ret
    refine ⟨ret_i ?_, rfl⟩
    unfold letF
    rw [if_neg (by omega)]
    exact letS_get _ (by first | rfl | (rw [IntKind.wrap_u64]; omega))
end Go.Proofs.YtonhglhdbpmnhaaDoor
