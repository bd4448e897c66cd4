/- Walks of package expand: a named escape; an escape at the front of a text. -/
import Derived.Test.YtbkcnopkibdlbaaDoorAd
namespace Go.Proofs.YtbkcnopkibdlbaaDoor
open Go.RowKit

def ndV (c : Nat) (st : Int) (e : Nat) (p : ByteArray × Nat) : Value := .tuple #[.agg #[.int .u8 c, .string p.1, .int .i64 st, .int .i64 0, .int .i64 (e + p.2)], .bool (decide (0 < (p.2 : Int)))]
theorem ndV_eq {s : ByteArray} {st : Int} {e : Nat} (h : stF s = (st, e)) : ndV (bt s 1) st e (nmF (s.extract e s.size)) = .tuple #[escV (ndF s), .bool (ndB s)] := by
  have h2 : decide (0 < ((nmF (s.extract e s.size)).2 : Int)) = ndB s := by
    unfold ndB; rw [h]
    exact decide_eq_decide.2 (by show _ ↔ 0 < (nmF (s.extract e s.size)).2; omega)
  have h1 : ((e : Int) + ((nmF (s.extract e s.size)).2 : Nat)) = ((e + (nmF (s.extract e s.size)).2 : Nat) : Int) := by omega
  unfold ndV
  rw [h1, h2]
  unfold ndF escV
  rw [h]
  rfl
/-- readNamed. -/
theorem cNd (s : ByteArray) (hs : s.size ≤ maxLen) (h2 : 2 ≤ s.size) (w : World) :
    Calls Tryd.prog 48 #[.string s] w fun e w' => e = .returned (.tuple #[escV (ndF s), .bool (ndB s)]) ∧ Below w.heap.size w w' := by
  have H2 := Lib.hid (fun w => cAt2 s hs w)
  have HN : Hid (∀ e w, Calls Tryd.prog 58 #[.string (s.extract e s.size)] w fun x w' => x = .returned (.tuple #[.string (nmF (s.extract e s.size)).1, .int .i64 (nmF (s.extract e s.size)).2]) ∧ w = w') := Lib.hid (fun e w => cNm (s.extract e s.size) (by
    rw [extract_size _ _ _ (Nat.le_refl _)]; unfold maxLen at *; omega) w)
  have hZ : ∀ e, (nmF (s.extract e s.size)).2 ≤ s.size - e := fun e => Nat.le_trans (nmF_size _) (by rw [extract_size _ _ _ (Nat.le_refl _)]; omega)
  have HZ := Lib.hid hZ
  have hb1 : bt s 1 = s[1].toNat := bt_in (by omega)
  have h3 : bt s 2 ≠ 0 → 3 ≤ s.size := fun h => bt_size h
  clear hZ
  unfold maxLen at hs
  by_cases h1 : (s[1].toNat : Int) = 110
  · have hB : ((s[1].toNat : Int) == 110) = true := by simp [h1]
    by_cases h43 : bt s 2 = 43
    · have h3 := h3 (by omega)
      rw [← ndV_eq (show stF s = (1, 3) by unfold stF; rw [if_pos (by omega), if_pos h43]), hb1]
      rw [h43] at H2
      have HN := Lib.hid (HN.out 3)
      have hz := HZ.out 3
      clear HZ hb1 h43
      generalize nmF (s.extract 3 s.size) = p at *
      obtain ⟨nm, k⟩ := p
      have hk : wrap64 (3 + (k : Int)) = 3 + k := by unfold wrap64; omega
      clear h1
      unfold ndV
      simp only at *
      go_enter Tryd.func48, Tryd.ntmps48
      go_wp2_with (first
        | (go_at_call 57; with_reducible refine (H2.out _).mono ?_; rintro e w1 ⟨rfl, rfl⟩)
        | (go_at_call 58; refine (HN.out _).mono ?_; rintro e w1 ⟨rfl, rfl⟩))
      refine bodyPost_ret (v := .tuple #[.agg #[.int .u8 s[1].toNat, .string nm, .int .i64 (1), .int .i64 0, .int .i64 (3 + k)], .bool (decide (0 < (k : Int)))]) (by simp [results, Tryd.results48, go_sem]) rfl ⟨rfl, by go_grown⟩
    · by_cases h45 : bt s 2 = 45
      · have h3 := h3 (by omega)
        rw [← ndV_eq (show stF s = (-1, 3) by unfold stF; rw [if_pos (by omega), if_neg h43, if_pos h45]), hb1]
        rw [h45] at H2
        have HN := Lib.hid (HN.out 3)
        have hz := HZ.out 3
        clear HZ hb1 h43 h45
        generalize nmF (s.extract 3 s.size) = p at *
        obtain ⟨nm, k⟩ := p
        have hk : wrap64 (3 + (k : Int)) = 3 + k := by unfold wrap64; omega
        clear h1
        unfold ndV
        simp only at *
        go_enter Tryd.func48, Tryd.ntmps48
        go_wp2_with (first
          | (go_at_call 57; with_reducible refine (H2.out _).mono ?_; rintro e w1 ⟨rfl, rfl⟩)
          | (go_at_call 58; refine (HN.out _).mono ?_; rintro e w1 ⟨rfl, rfl⟩))
        refine bodyPost_ret (v := .tuple #[.agg #[.int .u8 s[1].toNat, .string nm, .int .i64 (-1), .int .i64 0, .int .i64 (3 + k)], .bool (decide (0 < (k : Int)))]) (by simp [results, Tryd.results48, go_sem]) rfl ⟨rfl, by go_grown⟩
      · rw [← ndV_eq (show stF s = (0, 2) by unfold stF; rw [if_pos (by omega), if_neg h43, if_neg h45]), hb1]
        have hB1 : ((bt s 2 : Int) == 43) = false := by rw [beq_eq_false_iff_ne]; omega
        have hB2 : ((bt s 2 : Int) == 45) = false := by rw [beq_eq_false_iff_ne]; omega
        have HN := Lib.hid (HN.out 2)
        have hz := HZ.out 2
        clear HZ hb1 h43 h45 h3
        generalize bt s 2 = c2 at *
        generalize nmF (s.extract 2 s.size) = p at *
        obtain ⟨nm, k⟩ := p
        have hk : wrap64 (2 + (k : Int)) = 2 + k := by unfold wrap64; omega
        clear h1
        unfold ndV
        simp only at *
        go_enter Tryd.func48, Tryd.ntmps48
        go_wp2_with (first
          | (go_at_call 57; with_reducible refine (H2.out _).mono ?_; rintro e w1 ⟨rfl, rfl⟩)
          | (go_at_call 58; refine (HN.out _).mono ?_; rintro e w1 ⟨rfl, rfl⟩))
        refine bodyPost_ret (v := .tuple #[.agg #[.int .u8 s[1].toNat, .string nm, .int .i64 (0), .int .i64 0, .int .i64 (2 + k)], .bool (decide (0 < (k : Int)))]) (by simp [results, Tryd.results48, go_sem]) rfl ⟨rfl, by go_grown⟩
  · rw [← ndV_eq (show stF s = (0, 2) by unfold stF; rw [if_neg (by omega)]), hb1]
    have hB : ((s[1].toNat : Int) == 110) = false := by rw [beq_eq_false_iff_ne]; omega
    have HN := Lib.hid (HN.out 2)
    have hz := HZ.out 2
    clear HZ hb1 h3 H2
    generalize nmF (s.extract 2 s.size) = p at *
    obtain ⟨nm, k⟩ := p
    have hk : wrap64 (2 + (k : Int)) = 2 + k := by unfold wrap64; omega
    clear h1
    unfold ndV
    simp only at *
    go_enter Tryd.func48, Tryd.ntmps48
    go_wp2_with (first
      | (go_at_call 58; refine (HN.out _).mono ?_; rintro e w1 ⟨rfl, rfl⟩))
    refine bodyPost_ret (v := .tuple #[.agg #[.int .u8 s[1].toNat, .string nm, .int .i64 (0), .int .i64 0, .int .i64 (2 + k)], .bool (decide (0 < (k : Int)))]) (by simp [results, Tryd.results48, go_sem]) rfl ⟨rfl, by go_grown⟩
end Go.Proofs.YtbkcnopkibdlbaaDoor
