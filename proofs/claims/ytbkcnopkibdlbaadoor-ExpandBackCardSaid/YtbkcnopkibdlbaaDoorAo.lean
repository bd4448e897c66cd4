/- The document's lines; how far a text that is not plain is asked of, or shortened. -/
import Derived.Test.YtbkcnopkibdlbaaDoorAn
namespace Go.Proofs.YtbkcnopkibdlbaaDoor
open Go.RowKit

theorem ib_any : ∀ l : List UInt8, decide (0 ≤ Lib.indexByte l 10) = l.any (· == 10)
  | [] => rfl
  | b :: l => by
    have ih := ib_any l
    have hg := Lib.indexByte_ge l 10
    have e : Lib.indexByte (b :: l) 10 = if b == 10 then 0 else if Lib.indexByte l 10 == -1 then -1 else Lib.indexByte l 10 + 1 := rfl
    rw [List.any_cons, ← ih, e]
    clear e ih
    split
    · rename_i h
      rw [h]; rfl
    · rename_i h
      rw [show (b == 10) = false by simpa using h, Bool.false_or]
      split
      · rename_i h2
        have h2 : Lib.indexByte l 10 = -1 := by simpa using h2
        rw [h2]
      · rename_i h2
        have h2 : Lib.indexByte l 10 ≠ -1 := by simpa using h2
        exact decide_eq_decide.2 (by omega)
theorem noLf_all (s : ByteArray) : noLf s = allB (fun c => decide (c ≠ 10)) s := by
  unfold noLf allB
  rw [ib_any]
  induction s.data.toList with
  | nil => rfl
  | cons b l ih =>
    rw [List.any_cons, List.all_cons, ← ih, Bool.not_or]
    congr 1
    rw [Bool.eq_iff_iff]
    simp only [Bool.not_eq_true', beq_eq_false_iff_ne, ne_eq, decide_eq_true_eq]
    constructor
    · intro h e
      exact h (UInt8.toNat_inj.1 e)
    · intro h e
      exact h (by rw [e]; rfl)
/-- The document's IsLine. -/
theorem nLine (s : ByteArray) (hs : s.size ≤ maxLen) (w : World) :
    Calls Tryd.prog 9 #[.string s] w fun e w' => e = .returned (.bool (textB s)) ∧ w = w' := by
  unfold maxLen at hs
  go_enter Tryd.func9, Tryd.ntmps9
  go_wp2
  go_loop [3] (fun v3 => ∃ k : Nat, k ≤ s.size ∧ v3 = .int .i64 k ∧ ∀ (j : Nat) (hj : j < s.size), j < k → decide (s[j].toNat ≠ 10) = true) (fun v3 => s.size - (intOf v3).toNat)
  case atStart => exact ⟨0, Nat.zero_le _, rfl, fun j hj h => by omega⟩
  case round =>
    obtain ⟨k, hk, rfl, hb⟩ := hrel
    have HB := Lib.hid hb
    clear hb
    by_cases hlt : k < s.size
    · by_cases h3 : (s[k].toNat : Int) = 10
      · have hf : textB s = false := by
          unfold textB
          rw [noLf_all, allB_no k hlt (by
            have : s[k].toNat = 10 := by omega
            rw [this]; rfl)]; simp
        have hB : ((s[k].toNat : Int) == 10) = true := by simp [h3]
        clear h3
        go_wp2
        go_ret
        exact ⟨rfl, rfl⟩
      · have hf : decide (s[k].toNat ≠ 10) = true := by
          rw [decide_eq_true_eq]; omega
        have HF := Lib.hid hf
        have hB : ((s[k].toNat : Int) == 10) = false := by simp [h3]
        clear h3 hf
        go_wp2
        go_round
        case rel => exact ⟨k + 1, by omega, by go_num, fun j hj h => by
          by_cases e : j = k
          · subst e; exact HF.out
          · exact HB.out j hj (by omega)⟩
        case measure => simp [intOf]; omega
    · have hall : noLf s = true := by
        rw [noLf_all]
        exact allB_yes fun j hj => HB.out j hj (by omega)
      have hn : textB s = decide ((s.size : Int) ≤ 2000) := by
        unfold textB
        rw [hall, Bool.and_true]
        exact decide_eq_decide.2 (by omega)
      clear hall HB
      go_wp2
      go_ret
      exact ⟨rfl, rfl⟩

theorem akO_up {A : Esc → ByteArray} {n : Nat} {x : Esc} {o m : Nat} {t : Option ByteArray} (h : akO A n x o = (t, m)) : n ≤ m ∧ (n ≠ 500 → n < m) := by
  unfold akO at h
  split at h
  · injection h with _ h
    omega
  · split at h
    · injection h with _ h
      omega
    · injection h with _ h
      omega
theorem Exp.up {cp : Bool} {A : Esc → ByteArray} {n : Nat} {D R : ByteArray} {o : Option ByteArray} {m : Nat} (h : Exp cp A n D R o m) : n ≤ m ∧ (o = none → n ≠ 500 → n < m) := by
  induction h with
  | stop => exact ⟨Nat.le_refl _, fun h => by cases h⟩
  | quote => exact ⟨Nat.le_refl _, fun h => by cases h⟩
  | lit _ _ _ ih => exact ih
  | no _ _ q => exact ⟨(akO_up q).1, fun _ => (akO_up q).2⟩
  | num _ _ q _ ih =>
    have := akO_up q
    exact ⟨by omega, fun _ h => by have := this.2 h; omega⟩
  | again _ _ q _ ih =>
    have := akO_up q
    exact ⟨by omega, fun _ h => by have := this.2 h; omega⟩
  | wFell _ _ _ ih => exact ⟨ih.1, fun _ => ih.2 rfl⟩
  | wNo _ _ _ q ih =>
    have := akO_up q
    refine ⟨by omega, fun _ h => ?_⟩
    have h1 := ih.1
    unfold akO at q
    split at q
    · injection q with _ q
      omega
    · split at q
      · injection q with _ q
        omega
      · cases q
  | wNum _ _ _ q _ ih1 ih2 =>
    have := akO_up q
    have h3 := (akO_some q).2.2.1
    exact ⟨by omega, fun _ _ => by omega⟩
/-- What a text that is not plain comes to, where the answers are empty: somebody is asked, or something is lost. -/
theorem exp_lost {A : Esc → ByteArray} {s : ByteArray} {o : Option ByteArray} {m : Nat} {x : Esc} (h : Exp false A 0 ⟨#[]⟩ s o m) (he : esF s false = some x) : 0 < m ∨ ∃ t, o = some t ∧ t.size < s.size := by
  have hf := esF_fine he
  cases h with
  | stop e => rw [he] at e; cases e
  | quote e k =>
    rw [he] at e
    injection e with e
    subst e
    have h1 := hf.az
    have h2 := hf.z
    exact .inr ⟨_, rfl, by rw [app_size, hd_size hf]; show 0 + x.a < s.size; omega⟩
  | lit e k _ =>
    rw [he] at e
    injection e with e
    subst e
    have := hf.kind
    exfalso
    rcases this with e | e | e | e | e | e
    · omega
    · omega
    · omega
    · omega
    · omega
    · cases e.2
  | no _ _ q => exact .inl ((akO_up q).2 (by omega))
  | num _ _ q r => exact .inl (by have := (akO_up q).2 (by omega); have := r.up.1; omega)
  | again _ _ q r => exact .inl (by have := (akO_up q).2 (by omega); have := r.up.1; omega)
  | wFell _ _ r => exact .inl (r.up.2 rfl (by omega))
  | wNo _ _ r q =>
    refine .inl ?_
    unfold akO at q
    split at q
    · injection q with _ q
      omega
    · split at q
      · injection q with _ q
        omega
      · cases q
  | wNum _ _ _ q r => exact .inl (by have := (akO_some q).2.2.1; have := r.up.1; omega)
theorem nil_app (s : ByteArray) : (⟨#[]⟩ : ByteArray) ++ s = s := by
  refine ba_eq ?_
  rw [app_data]; rfl
/-- Expand, where the noting one is asked. -/
theorem cExpandT (s : ByteArray) (cp : Bool) (hs : textB s = true) (t : Nat) {A0 : Option Addr} {c0 : Nat} {xs : List Value} (w : World) (ht : TlAt t 0 A0 c0 xs w) (B : Nat) (hB : ∀ i, TlS t A0 i → B ≤ i) (hw : B ≤ w.heap.size) :
    Calls Tryd.prog 11 #[.string s, .bool cp, .func (.func 12) #[.pointer (some ⟨t, 0, none⟩)] #[]] w fun e w' =>
      ∃ o m A c xs', Exp cp AT 0 ⟨#[]⟩ s o m ∧ e = .returned (exV o) ∧ TlAt t m A c xs' w' ∧ Below B w w' ∧ ∀ i, TlS t A i → B ≤ i := by
  have hold : ∀ i, TlS t A0 i → i < w.heap.size := fun i hi => by
    rcases hi with rfl | e
    · exact ht.1.lt
    · exact (ht.2.lt i (by rw [← e]; exact own_any _ _ _ _ _)).2
  refine (cExpand (A := AT) (J := fun b => JT t b cp) (fun b => oTeller t b cp) (TlS t A0) s hs w (fun w1 hb h => ⟨fun i => i = w.heap.size + 1 ∨ TlS t A0 i, ⟨h, A0, c0, xs, ht.below hb, fun _ => Iff.rfl⟩, fun i hi => ?_⟩)).mono ?_
  · rcases hi with e | e
    · exact .inr e
    · exact .inl ⟨e, hold i e⟩
  · rintro e w' ⟨U', o, m, hx, he, ⟨_, A, c, xs', hA, hU⟩, hT, hn⟩
    refine ⟨o, m, A, c, xs', hx, he, hA, ⟨hT.os, hT.tape, hT.output, by have := hT.size; omega, fun i hi => hT.block i (by omega) (fun e => by have := hB i e; omega)⟩, fun i hi => ?_⟩
    rcases hn i ((hU i).2 (.inr hi)) with e | e
    · exact hB i e
    · omega
end Go.Proofs.YtbkcnopkibdlbaaDoor
