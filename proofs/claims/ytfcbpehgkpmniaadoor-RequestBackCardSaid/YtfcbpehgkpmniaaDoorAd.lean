/- Walk of the document's tail: an argument's bytes up to a blank. -/
import Derived.Test.YtfcbpehgkpmniaaDoorAc
namespace Go.Proofs.YtfcbpehgkpmniaaDoor
open Go.RowKit

theorem tlL_stop {c : UInt8} {t : List UInt8} (h : blB c = true) : tlL (c :: t) = ([], c :: t) := by
  cases t <;> (unfold tlL; rw [h]; rfl)
theorem tlL_two {c d : UInt8} {t : List UInt8} (h : blB c = false) (h2 : c.toNat = 92) : tlL (c :: d :: t) = (c :: d :: (tlL t).1, (tlL t).2) := by
  conv => lhs; unfold tlL
  rw [h, if_pos h2]
  rfl
theorem tlL_one {c : UInt8} {t : List UInt8} (h : blB c = false) (h2 : c.toNat ≠ 92 ∨ t = []) : tlL (c :: t) = (c :: (tlL t).1, (tlL t).2) := by
  cases t with
  | nil => unfold tlL; rw [h]; rfl
  | cons d t =>
    have h2 : c.toNat ≠ 92 := h2.resolve_right (by simp)
    conv => lhs; unfold tlL
    rw [h, if_neg h2]
    rfl
theorem ext_one {s : ByteArray} {k : Nat} (hk : k < s.size) : (s.extract k (k + 1)).data.toList = [s[k]] := by
  rw [ext_step (Nat.le_refl k) hk, ext_none]
  rfl
theorem ext_two {s : ByteArray} {k : Nat} (hk : k + 1 < s.size) : (s.extract k (k + 2)).data.toList = [s[k], s[k + 1]] := by
  rw [ext_step (Nat.le_succ k) hk, ext_one (by omega)]
  rfl
/-- The document's tail. -/
theorem nTail (s : ByteArray) (hs : s.size ≤ 1000000) (i : Nat) (hi : i ≤ s.size) (w : World) :
    Calls Tryd.prog 24 #[.string s, .int .i64 i] w fun e w' => (∃ (o : ByteArray) (k : Nat), e = .returned (.tuple #[.string o, .int .i64 k]) ∧ i ≤ k ∧ k ≤ s.size ∧ o.size = k - i ∧ o.data.toList = (tlL (dr s i)).1 ∧ dr s k = (tlL (dr s i)).2) ∧ w = w' := by
  have HB := Lib.hid (fun (c : UInt8) w => nBlank c w)
  go_enter Tryd.func24, Tryd.ntmps24
  go_wp2
  go_loop [1, 6] (fun v1 v6 => ∃ (k : Nat) (o : ByteArray), i ≤ k ∧ k ≤ s.size ∧ v1 = .int .i64 k ∧ v6 = .string o ∧ o.size = k - i ∧ o.data.toList ++ (tlL (dr s k)).1 = (tlL (dr s i)).1 ∧ (tlL (dr s k)).2 = (tlL (dr s i)).2) (fun v1 _ => s.size - (intOf v1).toNat)
  case atStart => exact ⟨i, ⟨#[]⟩, Nat.le_refl _, hi, rfl, rfl, by rw [Nat.sub_self]; rfl, rfl, rfl⟩
  case round =>
    obtain ⟨k, o, hik, hk, rfl, rfl, ho, hb1, hb2⟩ := hrel
    have H1 := Lib.hid hb1
    have H2 := Lib.hid hb2
    clear hb1 hb2
    by_cases hlt : k < s.size
    · have hc := Lib.hid (dr_cons hlt)
      cases h3 : blB s[k]
      · have h := Lib.hid h3
        by_cases h9 : (s[k].toNat : Int) = 92
        · have hB : ((s[k].toNat : Int) == 92) = true := by simp [h9]
          by_cases hl2 : k + 1 < s.size
          · have hc2 := Lib.hid (dr_cons hl2)
            have h92 := Lib.hid (show s[k].toNat = 92 by omega)
            clear h9
            go_wp2_with (go_at_call 52; refine (HB.out _ _).mono ?_; rintro e w1 ⟨rfl, rfl⟩; rw [h3])
            go_round
            case rel =>
              refine ⟨k + 2, o ++ s.extract k (k + 2), by omega, by omega, by go_num, by go_num, ?_, ?_, ?_⟩
              · rw [ByteArray.size_append, ho, size_len, ext_two hl2]; simp; omega
              · rw [← H1.out, hc.out, hc2.out, tlL_two h.out h92.out, app_data, ext_two hl2, List.append_assoc]; rfl
              · rw [← H2.out, hc.out, hc2.out, tlL_two h.out h92.out]
            case measure => simp [intOf]; omega
          · have he := Lib.hid (dr_end (s := s) (i := k + 1) (by omega))
            clear h9
            go_wp2_with (go_at_call 52; refine (HB.out _ _).mono ?_; rintro e w1 ⟨rfl, rfl⟩; rw [h3])
            go_round
            case rel =>
              refine ⟨k + 1, o ++ s.extract k (k + 1), by omega, by omega, by go_num, by go_num, ?_, ?_, ?_⟩
              · rw [ByteArray.size_append, ho, size_len, ext_one hlt]; simp; omega
              · rw [← H1.out, hc.out, tlL_one h.out (.inr he.out), app_data, ext_one hlt, List.append_assoc]; rfl
              · rw [← H2.out, hc.out, tlL_one h.out (.inr he.out)]
            case measure => simp [intOf]; omega
        · have hB : ((s[k].toNat : Int) == 92) = false := by simp [h9]
          have h92 := Lib.hid (show s[k].toNat ≠ 92 by omega)
          clear h9
          go_wp2_with (go_at_call 52; refine (HB.out _ _).mono ?_; rintro e w1 ⟨rfl, rfl⟩; rw [h3])
          go_round
          case rel =>
            refine ⟨k + 1, o ++ s.extract k (k + 1), by omega, by omega, by go_num, by go_num, ?_, ?_, ?_⟩
            · rw [ByteArray.size_append, ho, size_len, ext_one hlt]; simp; omega
            · rw [← H1.out, hc.out, tlL_one h.out (.inl h92.out), app_data, ext_one hlt, List.append_assoc]; rfl
            · rw [← H2.out, hc.out, tlL_one h.out (.inl h92.out)]
          case measure => simp [intOf]; omega
      · have h := Lib.hid h3
        go_wp2_with (go_at_call 52; refine (HB.out _ _).mono ?_; rintro e w1 ⟨rfl, rfl⟩; rw [h3])
        go_ret2
        refine ⟨⟨o, k, rfl, hik, hk, ho, ?_, ?_⟩, rfl⟩
        · rw [← H1.out, hc.out, tlL_stop h.out, List.append_nil]
        · rw [← H2.out, hc.out, tlL_stop h.out]
    · have he := Lib.hid (dr_end (s := s) (i := k) (by omega))
      go_wp2
      go_ret2
      refine ⟨⟨o, k, rfl, hik, hk, ho, ?_, ?_⟩, rfl⟩
      · rw [← H1.out, he.out, show tlL [] = ([], []) from rfl, List.append_nil]
      · rw [← H2.out, he.out]; rfl
end Go.Proofs.YtfcbpehgkpmniaaDoor
