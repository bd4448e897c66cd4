/- The statement's fixed example. -/
import Derived.Test.YtbkcnopkibdlbaaDoorAk
namespace Go.Proofs.YtbkcnopkibdlbaaDoor
open Go.RowKit Go.Lib

theorem Exp.inv_stop {cp : Bool} {A : Esc → ByteArray} {n : Nat} {D R : ByteArray} {o : Option ByteArray} {m : Nat} (h : Exp cp A n D R o m) (he : esF R cp = none) : o = some (D ++ R) ∧ m = n := by
  cases h with
  | stop => exact ⟨rfl, rfl⟩
  | quote e => rw [he] at e; cases e
  | lit e => rw [he] at e; cases e
  | no e => rw [he] at e; cases e
  | num e => rw [he] at e; cases e
  | again e => rw [he] at e; cases e
  | wFell e => rw [he] at e; cases e
  | wNo e => rw [he] at e; cases e
  | wNum e => rw [he] at e; cases e
theorem Exp.inv_num {cp : Bool} {A : Esc → ByteArray} {n : Nat} {D R : ByteArray} {o : Option ByteArray} {m : Nat} {x : Esc} (h : Exp cp A n D R o m) (he : esF R cp = some x) (hk : x.k = 110) :
    (akO A n x ((D ++ hdE R x).size + (tlE R x).size) = (none, m) ∧ o = none) ∨ ∃ t m', akO A n x ((D ++ hdE R x).size + (tlE R x).size) = (some t, m') ∧ Exp cp A m' (D ++ hdE R x ++ t) (tlE R x) o m := by
  cases h with
  | stop e => rw [he] at e; cases e
  | quote e k => rw [he] at e; injection e with e; subst e; omega
  | lit e k => rw [he] at e; injection e with e; subst e; omega
  | no e _ q => rw [he] at e; injection e with e; subst e; exact .inl ⟨q, rfl⟩
  | num e _ q r => rw [he] at e; injection e with e; subst e; exact .inr ⟨_, _, q, r⟩
  | again e k => rw [he] at e; injection e with e; subst e; omega
  | wFell e k => rw [he] at e; injection e with e; subst e; omega
  | wNo e k => rw [he] at e; injection e with e; subst e; omega
  | wNum e k => rw [he] at e; injection e with e; subst e; omega
def sX : ByteArray := ⟨#[97, 92, 110, 120, 98]⟩
theorem es_sane : esF sX false = some ⟨110, ⟨#[120]⟩, 0, 1, 4⟩ := by kernel_rfl
theorem es_sane2 : esF ⟨#[98]⟩ false = none := by kernel_rfl
theorem exp_sane {o : Option ByteArray} {m : Nat} (h : Exp false AF 0 ⟨#[]⟩ sX o m) : o = some ⟨#[97, 51, 98]⟩ := by
  rcases h.inv_num es_sane rfl with ⟨h, _⟩ | ⟨t, m', h1, h2⟩
  · have h5 : (akO AF 0 ⟨110, ⟨#[120]⟩, 0, 1, 4⟩ ((⟨#[]⟩ ++ hdE sX ⟨110, ⟨#[120]⟩, 0, 1, 4⟩ : ByteArray).size + (tlE sX ⟨110, ⟨#[120]⟩, 0, 1, 4⟩).size)).1 = none := congrArg Prod.fst h
    exact absurd h5 (by decide +kernel)
  · obtain ⟨rfl, _⟩ := akO_some h1
    have h3 : tlE sX ⟨110, ⟨#[120]⟩, 0, 1, 4⟩ = ⟨#[98]⟩ := by kernel_rfl
    rw [h3] at h2
    obtain ⟨rfl, _⟩ := h2.inv_stop es_sane2
    have h4 : (⟨#[]⟩ ++ hdE sX ⟨110, ⟨#[120]⟩, 0, 1, 4⟩ ++ AF ⟨110, ⟨#[120]⟩, 0, 1, 4⟩ ++ ⟨#[98]⟩ : ByteArray) = ⟨#[97, 51, 98]⟩ := by kernel_rfl
    rw [h4]
set_option maxRecDepth 100000 in
/-- sane. -/
theorem lSane (w : World) : Calls Tryd.prog 5 #[] w fun e w' => e = .returned (.bool true) ∧ Below w.heap.size w w' := by
  have H : Hid (∀ w : World, Calls Tryd.prog 11 #[.string ⟨#[97, 92, 110, 120, 98]⟩, .bool false, .func (.func 13) #[] #[]] w fun e w' => e = .returned (.tuple #[.string ⟨#[97, 51, 98]⟩, .int .i64 0]) ∧ Below w.heap.size w w') :=
    Lib.hid (fun w => (cExpand (A := AF) (J := fun b => JF b false) (cp := false) (f := .func 13) (fs := #[]) (fun b => oFixed b false) (fun _ => False) sX (by decide +kernel) w (fun w1 _ hB => ⟨(· = w.heap.size + 1), ⟨fun _ => Iff.rfl, hB⟩, fun i hi => .inr hi⟩)).mono (fun e w' ⟨U', o, m, hx, he, _, hT, _⟩ => by
      rw [exp_sane hx] at he
      exact ⟨he, ⟨hT.os, hT.tape, hT.output, hT.size, fun i hi => hT.block i hi (fun h => h)⟩⟩))
  go_enter Tryd.func5, Tryd.ntmps5
  go_wp2_with (go_at_call 11; refine (H.out _).mono ?_; rintro e w1 ⟨rfl, hb1⟩)
  go_ret
  exact ⟨rfl, hb1⟩
end Go.Proofs.YtbkcnopkibdlbaaDoor
