/- Walks: Protect; the statement on texts that are protected again and again. -/
import Derived.Test.YtbkcnopkibdlbaaDoorRa
import Derived.Lib.ReplaceLaws
namespace Go.Proofs.YtbkcnopkibdlbaaDoor
open Go.RowKit

abbrev bs (l : List UInt8) : ByteArray := ⟨l.toArray⟩
theorem bs_self (s : ByteArray) : bs s.data.toList = s := ba_eq rfl
theorem tx_twice {l : List UInt8} (h : textB (bs l) = true) (hz : (twice l).length ≤ 2000) : textB (bs (twice l)) = true := by
  unfold textB at h ⊢
  rw [noLf_all] at h ⊢
  simp only [Bool.and_eq_true, decide_eq_true_eq] at h ⊢
  refine ⟨by rw [mk_size]; exact hz, ?_⟩
  have h2 := h.2
  unfold allB at h2 ⊢
  rw [List.all_eq_true] at h2 ⊢
  exact fun b hb => h2 b (twice_mem hb)
/-- Protect. -/
theorem cProtect (l : List UInt8) (hl : textB (bs l) = true) (hz : (twice l).length ≤ 2000) (m : Int) (w : World) (hm : w.cell? ⟨0, 0, none⟩ = some (.int .i64 m)) :
    Calls Tryd.prog 10 #[.string (bs l)] w fun e w' => e = .returned (.tuple #[.string (bs (twice l)), .int .i64 0]) ∧ Below w.heap.size w w' := by
  have hs : (bs l).size ≤ 2000 := by unfold textB at hl; simp only [Bool.and_eq_true, decide_eq_true_eq] at hl; exact hl.1
  have HT := Lib.hid (fun w => cText (bs l) (by unfold maxLen; omega) w)
  rw [hl] at HT
  have hR := Tryd.strings_ReplaceAll (bs l) ⟨#[92]⟩ ⟨#[92, 92]⟩ m w (by omega) hm (by decide) (by
    have := Lib.countB_mul_le ⟨#[92]⟩ (by decide) (bs l).size (bs l)
    rw [show (⟨#[92]⟩ : ByteArray).size = 1 from rfl, Nat.mul_one] at this
    rw [show (⟨#[92, 92]⟩ : ByteArray).size = 2 from rfl]
    omega)
  rw [show Lib.replaceAll (bs l).data.toList (⟨#[92]⟩ : ByteArray).data.toList (⟨#[92, 92]⟩ : ByteArray).data.toList = twice l from rep_all l] at hR
  have HR := Lib.hid hR
  have hk : ((bs (twice l)).size : Int) ≤ 2000 := by rw [mk_size]; omega
  change Hid (Calls _ _ _ w fun e w' => e = .returned (.string (bs (twice l))) ∧ _) at HR
  clear hl hz hm hR hs
  generalize bs (twice l) = T at *
  generalize bs l = S at *
  go_enter Tryd.func10, Tryd.ntmps10
  go_wp2_with (first
    | (go_at_call 19; refine (HT.out _).mono ?_; rintro e w1 ⟨rfl, rfl⟩)
    | (go_at_call 20; refine HR.out.mono ?_; rintro e w2 ⟨rfl, hb⟩))
  go_ret2
  exact ⟨rfl, hb⟩
/-- A text, protected so often. -/
def twN (l : List UInt8) : Nat → List UInt8
  | 0 => l
  | n + 1 => twice (twN l n)
theorem twN_len (l : List UInt8) (h : l.length ≤ 120) : ∀ n, n ≤ 3 → (twN l n).length ≤ 120 * 2 ^ n
  | 0, _ => by show l.length ≤ 120 * 1; omega
  | n + 1, hn => by
    have h1 := twice_len (twN l n)
    have h2 := twN_len l h n (by omega)
    show (twice (twN l n)).length ≤ 120 * 2 ^ (n + 1)
    rw [Nat.pow_succ]
    omega
theorem twN_tx (l : List UInt8) (h : l.length ≤ 120) (hl : textB (bs l) = true) : ∀ n, n ≤ 3 → (twN l n).length ≤ 2000 ∧ textB (bs (twN l n)) = true := fun n hn => by
  have hp : ∀ k, k ≤ 3 → (twN l k).length ≤ 2000 := fun k hk => by
    have := twN_len l h k hk
    have : 2 ^ k ≤ 2 ^ 3 := Nat.pow_le_pow_right (by omega) hk
    omega
  refine ⟨hp n hn, ?_⟩
  induction n with
  | zero => exact hl
  | succ n ih => exact tx_twice (ih (by omega)) (hp (n + 1) hn)
end Go.Proofs.YtbkcnopkibdlbaaDoor
