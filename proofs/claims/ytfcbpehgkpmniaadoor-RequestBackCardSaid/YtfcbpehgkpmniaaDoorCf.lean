/- Walks: the cutter, by each function of bytes. -/
import Derived.Test.YtfcbpehgkpmniaaDoorCb
namespace Go.Proofs.YtfcbpehgkpmniaaDoor
open Go.RowKit Go.Maps Go.WideMaps

theorem CutAt.drew {w : World} {ba bt : Nat} {s : ByteArray} {i : Nat} (h : CutAt w ba bt s i) : CutAt w.drew ba bt s i := ⟨h.1.drew, h.2.drew⟩
/-- What the cutter's function answers. -/
def CutTo (p : UInt8 → Bool) (n : Nat) (s : ByteArray) (ba bt i : Nat) (w : World) (e : Ending) (w' : World) : Prop :=
  ∃ j, e = .returned (.string (s.extract i j)) ∧ i ≤ j ∧ j ≤ s.size ∧ (s.extract i j).data.toList = cuA p n (dr s i) ∧ dr s j = cuB p n (dr s i) ∧ CutAt w' ba bt s j ∧ Turn (· = ba) w w'
section
variable {s : ByteArray} {ba bt i : Nat} {w : World}
theorem cutBl {N : Int} (n : Nat) (hN : N = (n : Int)) (hn : n ≤ 2000) (hs : s.size ≤ 2000) (hi : i ≤ s.size) (h : CutAt w ba bt s i) :
    Calls Tryd.prog 55 #[.int .i64 N, .func (.func 28) #[] #[], .pointer (some ⟨ba, 0, none⟩), .pointer (some ⟨bt, 0, none⟩)] w (CutTo blB n s ba bt i w) := by
  subst hN
  exact cCutK 28 blB (enters_of Tryd.func28 (by kernel_rfl) rfl) (fun c w => cBlank c w) (by unfold maxLen; omega) hi hn h
theorem cutWd {N : Int} (n : Nat) (hN : N = (n : Int)) (hn : n ≤ 2000) (hs : s.size ≤ 2000) (hi : i ≤ s.size) (h : CutAt w ba bt s i) :
    Calls Tryd.prog 55 #[.int .i64 N, .func (.func 42) #[] #[], .pointer (some ⟨ba, 0, none⟩), .pointer (some ⟨bt, 0, none⟩)] w (CutTo (fun c => !blB c) n s ba bt i w) := by
  subst hN
  exact cCutK 42 (fun c => !blB c) (enters_of Tryd.func42 (by kernel_rfl) rfl) (fun c w => cNoBlank c w) (by unfold maxLen; omega) hi hn h
theorem cutTu {N : Int} (n : Nat) (hN : N = (n : Int)) (hn : n ≤ 2000) (hs : s.size ≤ 2000) (hi : i ≤ s.size) (h : CutAt w ba bt s i) :
    Calls Tryd.prog 55 #[.int .i64 N, .func (.func 29) #[] #[], .pointer (some ⟨ba, 0, none⟩), .pointer (some ⟨bt, 0, none⟩)] w (CutTo (fun c => decide (c.toNat = 33)) n s ba bt i w) := by
  subst hN
  exact cCutK 29 (fun c => decide (c.toNat = 33)) (enters_of Tryd.func29 (by kernel_rfl) rfl) (fun c w => cTurn c w) (by unfold maxLen; omega) hi hn h
theorem cutAn {N : Int} (n : Nat) (hN : N = (n : Int)) (hn : n ≤ 2000) (hs : s.size ≤ 2000) (hi : i ≤ s.size) (h : CutAt w ba bt s i) :
    Calls Tryd.prog 55 #[.int .i64 N, .func (.func 31) #[] #[], .pointer (some ⟨ba, 0, none⟩), .pointer (some ⟨bt, 0, none⟩)] w (CutTo (fun _ => true) n s ba bt i w) := by
  subst hN
  exact cCutK 31 (fun _ => true) (enters_of Tryd.func31 (by kernel_rfl) rfl) (fun c w => cAny c w) (by unfold maxLen; omega) hi hn h
theorem cutTx (q : UInt8) (bq : Nat) {N : Int} (n : Nat) (hN : N = (n : Int)) (hq : Blk w bq 9 #[.string ⟨#[q]⟩]) (hbq : bq ≠ ba) (hn : n ≤ 2000) (hs : s.size ≤ 2000) (hi : i ≤ s.size) (h : CutAt w ba bt s i) :
    Calls Tryd.prog 55 #[.int .i64 N, .func (.func 57) #[] #[.pointer (some ⟨bq, 0, none⟩)], .pointer (some ⟨ba, 0, none⟩), .pointer (some ⟨bt, 0, none⟩)] w (CutTo (fun c => !decide (c = q)) n s ba bt i w) := by
  subst hN
  exact cCutT q bq hq hbq (by unfold maxLen; omega) hi hn h
end
theorem dr_le {s : ByteArray} (hs : s.size ≤ 2000) (i : Nat) : (dr s i).length ≤ 2000 := by rw [dr_len]; omega
theorem cu_bl {l : List UInt8} (h : l.length ≤ 2000) : cuB blB 2000 l = skL l := (cu_all h).2
theorem cu_wd {l : List UInt8} (h : l.length ≤ 2000) : cuA (fun c => !blB c) 2000 l = wdL l ∧ cuB (fun c => !blB c) 2000 l = wdR l := cu_all h
theorem cu_an {l : List UInt8} (h : l.length ≤ 2000) : cuA (fun _ => true) 2000 l = l ∧ cuB (fun _ => true) 2000 l = [] := by
  have := cu_all (p := fun _ => true) h
  rw [this.1, this.2]
  constructor
  · clear this h
    induction l with
    | nil => rfl
    | cons c t ih => rw [List.takeWhile_cons, if_pos rfl, ih]
  · clear this h
    induction l with
    | nil => rfl
    | cons c t ih => rw [List.dropWhile_cons, if_pos rfl, ih]
theorem cu_bl1 (l : List UInt8) : cuB blB 1 (wdR l) = (wdR l).drop 1 := by
  cases h : wdR l with
  | nil => rfl
  | cons c t =>
    have hb : blB c = true := by
      have h1 := List.head?_dropWhile_not (fun c => !blB c) l
      unfold wdR at h
      rw [h] at h1
      simpa using h1
    rw [cu_rest, hb, if_pos rfl, (cu_zero _ _).2]
    rfl
end Go.Proofs.YtfcbpehgkpmniaaDoor
