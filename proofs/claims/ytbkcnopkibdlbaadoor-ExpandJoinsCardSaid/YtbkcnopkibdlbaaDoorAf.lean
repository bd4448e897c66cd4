/- Walks of package expand: the escape at the front of a text. -/
import Derived.Test.YtbkcnopkibdlbaaDoorAe
namespace Go.Proofs.YtbkcnopkibdlbaaDoor
open Go.RowKit

def rdV : Option Esc → Value → Prop
  | some x, v => v = .tuple #[escV x, .bool true]
  | none, v => ∃ (c : Nat) (nm : ByteArray) (st a z : Int), v = .tuple #[.agg #[.int .u8 c, .string nm, .int .i64 st, .int .i64 a, .int .i64 z], .bool false]
theorem rdV_nd {s : ByteArray} {cp : Bool} (h : rdF s cp = if ndB s then some (ndF s) else none) : ∀ v, v = .tuple #[escV (ndF s), .bool (ndB s)] → rdV (rdF s cp) v := by
  intro v hv
  rw [h, hv]
  generalize ndB s = b
  cases b
  · exact ⟨_, _, _, _, _, rfl⟩
  · exact rfl
theorem rdV_esc {x : Esc} {b : Bool} : rdV (if b then some x else none) (.tuple #[escV x, .bool b]) := by
  cases b
  · exact ⟨_, _, _, _, _, rfl⟩
  · exact rfl
set_option maxHeartbeats 800000 in
/-- read, of an escape with a name. -/
theorem cRdN (s : ByteArray) (cp : Bool) (hs : s.size ≤ maxLen) (h2 : 2 ≤ s.size) (hn : bt s 1 = 110 ∨ bt s 1 = 42 ∨ bt s 1 = 36) (w : World) :
    Calls Tryd.prog 39 #[.string s, .bool cp] w fun e w' => (∃ v, e = .returned v ∧ rdV (rdF s cp) v) ∧ Below w.heap.size w w' := by
  have HN := Lib.hid (fun w => cNd s hs h2 w)
  have hb1 : bt s 1 = s[1].toNat := bt_in (by omega)
  unfold maxLen at hs
  have HE : Hid (rdF s cp = if ndB s then some (ndF s) else none) := Lib.hid (by unfold rdF; rw [if_pos hn])
  have hk1 : ¬ ((s[1].toNat : Int) = 110) → ¬ ((s[1].toNat : Int) = 42) → ((s[1].toNat : Int) = 36) := fun a b => by omega
  clear hn hb1
  have HV : Hid (∀ v, v = .tuple #[escV (ndF s), .bool (ndB s)] → rdV (rdF s cp) v) := Lib.hid (rdV_nd HE.out)
  clear HE
  unfold escV at HN HV
  generalize ndF s = x at *
  generalize ndB s = b at *
  obtain ⟨k, nm, st, a, z⟩ := x
  simp only at *
  by_cases k1 : (s[1].toNat : Int) = 110
  · have hB : ((s[1].toNat : Int) == 110) = true := by simp [k1]
    clear hk1 k1
    go_enter Tryd.func39, Tryd.ntmps39
    go_wp2_with (go_at_call 48; refine (HN.out _).mono ?_; rintro e w1 ⟨rfl, hb⟩; obtain ⟨p0, p1, p2, p3, p4, pf, hbw, hz⟩ := esc_new hb; clear hb)
    refine bodyPost_ret (v := .tuple #[.agg #[.int .u8 k, .string nm, .int .i64 st, .int .i64 a, .int .i64 z], .bool b]) (by simp [results, Tryd.results39, go_sem, p0, p1, p2, p3, p4]) rfl ⟨⟨_, rfl, HV.out _ rfl⟩, by go_grown⟩
  · by_cases k2 : (s[1].toNat : Int) = 42
    · have hB : ((s[1].toNat : Int) == 110) = false := by simp [k1]
      have hB2 : ((s[1].toNat : Int) == 42) = true := by simp [k2]
      clear hk1 k1 k2
      go_enter Tryd.func39, Tryd.ntmps39
      go_wp2_with (go_at_call 48; refine (HN.out _).mono ?_; rintro e w1 ⟨rfl, hb⟩; obtain ⟨p0, p1, p2, p3, p4, pf, hbw, hz⟩ := esc_new hb; clear hb)
      refine bodyPost_ret (v := .tuple #[.agg #[.int .u8 k, .string nm, .int .i64 st, .int .i64 a, .int .i64 z], .bool b]) (by simp [results, Tryd.results39, go_sem, p0, p1, p2, p3, p4]) rfl ⟨⟨_, rfl, HV.out _ rfl⟩, by go_grown⟩
    · have k3 := hk1 k1 k2
      have hB : ((s[1].toNat : Int) == 110) = false := by simp [k1]
      have hB2 : ((s[1].toNat : Int) == 42) = false := by simp [k2]
      have hB3 : ((s[1].toNat : Int) == 36) = true := by simp [k3]
      clear hk1 k1 k2 k3
      go_enter Tryd.func39, Tryd.ntmps39
      go_wp2_with (go_at_call 48; refine (HN.out _).mono ?_; rintro e w1 ⟨rfl, hb⟩; obtain ⟨p0, p1, p2, p3, p4, pf, hbw, hz⟩ := esc_new hb; clear hb)
      refine bodyPost_ret (v := .tuple #[.agg #[.int .u8 k, .string nm, .int .i64 st, .int .i64 a, .int .i64 z], .bool b]) (by simp [results, Tryd.results39, go_sem, p0, p1, p2, p3, p4]) rfl ⟨⟨_, rfl, HV.out _ rfl⟩, by go_grown⟩
set_option maxHeartbeats 800000 in
/-- read, of a \w. -/
theorem cRdW (s : ByteArray) (cp : Bool) (hs : s.size ≤ maxLen) (h2 : 2 ≤ s.size) (hn : ¬ (bt s 1 = 110 ∨ bt s 1 = 42 ∨ bt s 1 = 36)) (h119 : bt s 1 = 119) (w : World) :
    Calls Tryd.prog 39 #[.string s, .bool cp] w fun e w' => (∃ v, e = .returned v ∧ rdV (rdF s cp) v) ∧ Below w.heap.size w w' := by
  have HT := Lib.hid (fun w => cTx (s.extract 2 s.size) (by rw [extract_size _ _ _ (Nat.le_refl _)]; unfold maxLen at *; omega) w)
  have hb1 : bt s 1 = s[1].toNat := bt_in (by omega)
  unfold maxLen at hs
  have hB : ((s[1].toNat : Int) == 110) = false := by rw [beq_eq_false_iff_ne]; omega
  have hB2 : ((s[1].toNat : Int) == 42) = false := by rw [beq_eq_false_iff_ne]; omega
  have hB3 : ((s[1].toNat : Int) == 36) = false := by rw [beq_eq_false_iff_ne]; omega
  have hB4 : ((s[1].toNat : Int) == 119) = true := by rw [beq_iff_eq]; omega
  have e : rdF s cp = if cp then none else (txF (s.extract 2 s.size)).map fun t => ⟨119, t, 0, 0, 4 + t.size⟩ := by unfold rdF; rw [if_neg hn, if_pos h119]
  rw [e]
  have h119' : s[1].toNat = 119 := by omega
  clear e hn hb1 h119
  have hts : ∀ t, txF (s.extract 2 s.size) = some t → t.size + 2 ≤ s.size - 2 := fun t h => by
    have := txF_size h
    rw [extract_size _ _ _ (Nat.le_refl _)] at this
    exact this
  unfold txV at HT
  generalize txF (s.extract 2 s.size) = o at *
  cases o with
  | none =>
    simp only at HT
    clear hts h119'
    have e2 : (if cp then none else (Option.map (fun t => ⟨119, t, 0, 0, 4 + t.size⟩) none : Option Esc)) = none := by cases cp <;> rfl
    rw [e2]
    clear e2
    go_enter Tryd.func39, Tryd.ntmps39
    go_wp2_with (go_at_call 49; refine (HT.out _).mono ?_; rintro e w1 ⟨rfl, hb⟩; obtain ⟨p0, p1, p2, p3, p4, pf, hbw, hz⟩ := esc_new hb; clear hb)
    refine bodyPost_ret (v := .tuple #[.agg #[.int .u8 s[1].toNat, .string ⟨#[]⟩, .int .i64 0, .int .i64 0, .int .i64 4], .bool false]) (by simp [results, Tryd.results39, go_sem, p0, p1, p2, p3, p4]) rfl ⟨⟨_, rfl, ⟨_, _, _, _, _, rfl⟩⟩, by go_grown⟩
  | some t =>
    simp only at HT
    have hts := hts t rfl
    have hk : wrap64 (4 + (t.size : Int)) = 4 + t.size := by unfold wrap64; omega
    cases cp
    · rw [show (if false = true then none else (Option.map (fun t => ⟨119, t, 0, 0, 4 + t.size⟩) (some t) : Option Esc)) = some ⟨s[1].toNat, t, 0, 0, 4 + t.size⟩ by rw [h119']; rfl]
      have HV : Hid (rdV (some ⟨s[1].toNat, t, 0, 0, 4 + t.size⟩) (.tuple #[.agg #[.int .u8 s[1].toNat, .string t, .int .i64 0, .int .i64 0, .int .i64 (4 + t.size)], .bool true])) := Lib.hid (by
        unfold rdV escV; simp)
      clear h119' hts
      go_enter Tryd.func39, Tryd.ntmps39
      go_wp2_with (go_at_call 49; refine (HT.out _).mono ?_; rintro e w1 ⟨rfl, hb⟩; obtain ⟨p0, p1, p2, p3, p4, pf, hbw, hz⟩ := esc_new hb; clear hb)
      refine bodyPost_ret (v := .tuple #[.agg #[.int .u8 s[1].toNat, .string t, .int .i64 0, .int .i64 0, .int .i64 (4 + t.size)], .bool true]) (by simp [results, Tryd.results39, go_sem, p0, p1, p2, p3, p4, hk]) rfl ⟨⟨_, rfl, HV.out⟩, by go_grown⟩
    · rw [show (if true = true then none else (Option.map (fun t => ⟨119, t, 0, 0, 4 + t.size⟩) (some t) : Option Esc)) = none from rfl]
      clear h119' hts
      go_enter Tryd.func39, Tryd.ntmps39
      go_wp2_with (go_at_call 49; refine (HT.out _).mono ?_; rintro e w1 ⟨rfl, hb⟩; obtain ⟨p0, p1, p2, p3, p4, pf, hbw, hz⟩ := esc_new hb; clear hb)
      refine bodyPost_ret (v := .tuple #[.agg #[.int .u8 s[1].toNat, .string t, .int .i64 0, .int .i64 0, .int .i64 (4 + t.size)], .bool false]) (by simp [results, Tryd.results39, go_sem, p0, p1, p2, p3, p4, hk]) rfl ⟨⟨_, rfl, ⟨_, _, _, _, _, rfl⟩⟩, by go_grown⟩
set_option maxHeartbeats 800000 in
/-- read, of another one. -/
theorem cRdO (s : ByteArray) (cp : Bool) (hs : s.size ≤ maxLen) (h2 : 2 ≤ s.size) (hn : ¬ (bt s 1 = 110 ∨ bt s 1 = 42 ∨ bt s 1 = 36)) (h119 : ¬ bt s 1 = 119) (w : World) :
    Calls Tryd.prog 39 #[.string s, .bool cp] w fun e w' => (∃ v, e = .returned v ∧ rdV (rdF s cp) v) ∧ Below w.heap.size w w' := by
  have hb1 : bt s 1 = s[1].toNat := bt_in (by omega)
  unfold maxLen at hs
  have hB : ((s[1].toNat : Int) == 110) = false := by rw [beq_eq_false_iff_ne]; omega
  have hB2 : ((s[1].toNat : Int) == 42) = false := by rw [beq_eq_false_iff_ne]; omega
  have hB3 : ((s[1].toNat : Int) == 36) = false := by rw [beq_eq_false_iff_ne]; omega
  have hB4 : ((s[1].toNat : Int) == 119) = false := by rw [beq_eq_false_iff_ne]; omega
  by_cases h34 : bt s 1 = 34
  · have hB5 : ((s[1].toNat : Int) == 34) = true := by rw [beq_iff_eq]; omega
    have e : rdF s cp = some ⟨s[1].toNat, ⟨#[]⟩, 0, 0, s.size⟩ := by unfold rdF; rw [if_neg hn, if_neg h119, if_pos h34, ← hb1, h34]
    rw [e]
    clear e hn hb1 h119 h34
    go_enter Tryd.func39, Tryd.ntmps39
    go_wp2_with fail
    refine bodyPost_ret (v := .tuple #[.agg #[.int .u8 s[1].toNat, .string ⟨#[]⟩, .int .i64 0, .int .i64 0, .int .i64 s.size], .bool true]) (by simp [results, Tryd.results39, go_sem]) rfl ⟨⟨_, rfl, rfl⟩, by go_grown⟩
  · have hB5 : ((s[1].toNat : Int) == 34) = false := by rw [beq_eq_false_iff_ne]; omega
    by_cases h92 : bt s 1 = 92 ∨ bt s 1 = 46
    · have e : rdF s cp = if cp then some ⟨s[1].toNat, ⟨#[]⟩, 0, 0, 2⟩ else none := by unfold rdF; rw [if_neg hn, if_neg h119, if_neg h34, if_pos h92, ← hb1]
      rw [e]
      have HV : Hid (∀ v, v = .tuple #[.agg #[.int .u8 s[1].toNat, .string ⟨#[]⟩, .int .i64 0, .int .i64 0, .int .i64 2], .bool cp] → rdV (if cp then some ⟨s[1].toNat, ⟨#[]⟩, 0, 0, 2⟩ else none) v) := Lib.hid (fun v h => by rw [h]; exact rdV_esc (x := ⟨s[1].toNat, ⟨#[]⟩, 0, 0, 2⟩))
      have hk2 : ¬ s[1].toNat = 92 → s[1].toNat = 46 := fun h => by omega
      clear e hn hb1 h119 h34 h92
      cases cp
      all_goals
        have HV2 := Lib.hid (HV.out _ rfl)
        simp only [if_true, Bool.false_eq_true, if_false] at HV2 ⊢
        clear HV
        by_cases k : s[1].toNat = 92
        · have hB6 : ((s[1].toNat : Int) == 92) = true := by rw [beq_iff_eq]; omega
          clear k hk2
          go_enter Tryd.func39, Tryd.ntmps39
          go_wp2_with fail
          refine bodyPost_ret (v := .tuple #[.agg #[.int .u8 s[1].toNat, .string ⟨#[]⟩, .int .i64 0, .int .i64 0, .int .i64 2], .bool _]) (by simp [results, Tryd.results39, go_sem]) rfl ⟨⟨_, rfl, HV2.out⟩, by go_grown⟩
        · have hB6 : ((s[1].toNat : Int) == 92) = false := by rw [beq_eq_false_iff_ne]; omega
          have hB7 : ((s[1].toNat : Int) == 46) = true := by have := hk2 k; rw [beq_iff_eq]; omega
          clear k hk2
          go_enter Tryd.func39, Tryd.ntmps39
          go_wp2_with fail
          refine bodyPost_ret (v := .tuple #[.agg #[.int .u8 s[1].toNat, .string ⟨#[]⟩, .int .i64 0, .int .i64 0, .int .i64 2], .bool _]) (by simp [results, Tryd.results39, go_sem]) rfl ⟨⟨_, rfl, HV2.out⟩, by go_grown⟩
    · have hB6 : ((s[1].toNat : Int) == 92) = false := by rw [beq_eq_false_iff_ne]; omega
      have hB7 : ((s[1].toNat : Int) == 46) = false := by rw [beq_eq_false_iff_ne]; omega
      have e : rdF s cp = none := by unfold rdF; rw [if_neg hn, if_neg h119, if_neg h34, if_neg h92]
      rw [e]
      clear e hn hb1 h119 h34 h92
      go_enter Tryd.func39, Tryd.ntmps39
      go_wp2_with fail
      refine bodyPost_ret (v := .tuple #[.agg #[.int .u8 0, .string ⟨#[]⟩, .int .i64 0, .int .i64 0, .int .i64 0], .bool false]) (by simp [results, Tryd.results39, go_sem]) rfl ⟨⟨_, rfl, ⟨0, _, _, _, _, rfl⟩⟩, by go_grown⟩
/-- read. -/
theorem cRd (s : ByteArray) (cp : Bool) (hs : s.size ≤ maxLen) (h2 : 2 ≤ s.size) (w : World) :
    Calls Tryd.prog 39 #[.string s, .bool cp] w fun e w' => (∃ v, e = .returned v ∧ rdV (rdF s cp) v) ∧ Below w.heap.size w w' := by
  by_cases hn : bt s 1 = 110 ∨ bt s 1 = 42 ∨ bt s 1 = 36
  · exact cRdN s cp hs h2 hn w
  · by_cases h119 : bt s 1 = 119
    · exact cRdW s cp hs h2 hn h119 w
    · exact cRdO s cp hs h2 hn h119 w
end Go.Proofs.YtbkcnopkibdlbaaDoor
