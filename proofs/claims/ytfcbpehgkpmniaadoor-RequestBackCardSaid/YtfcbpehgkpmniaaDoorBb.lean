/- Walks of the code's endsOpen and writeWord. -/
import Derived.Test.YtfcbpehgkpmniaaDoorBa
import Derived.Test.YtfcbpehgkpmniaaDoorRd
import Derived.Lib.ReplaceLaws
namespace Go.Proofs.YtfcbpehgkpmniaaDoor
open Go.RowKit Go.Maps Go.WideMaps

def trl (l : List UInt8) : Nat := (l.reverse.takeWhile (· == 92)).length
theorem trl_trim (l : List UInt8) : (Lib.trimRightB l 92).length + trl l = l.length := by
  unfold Lib.trimRightB trl
  have h := congrArg List.length (List.takeWhile_append_dropWhile (p := (· == (92 : UInt8))) (l := l.reverse))
  rw [List.length_append, List.length_reverse] at h
  rw [List.length_reverse]
  omega
theorem trl_snoc (l : List UInt8) (c : UInt8) : trl (l ++ [c]) = if c = 92 then trl l + 1 else 0 := by
  unfold trl
  rw [List.reverse_append, List.reverse_cons, List.reverse_nil, List.nil_append, List.singleton_append, List.takeWhile_cons]
  by_cases e : c = 92
  · simp [e]
  · simp [e]
theorem odd_snoc : ∀ (b : Bool) (l : List UInt8) (c : UInt8), oddE b (l ++ [c]) = (decide (c.toNat = 92) && !oddE b l)
  | _, [], _ => rfl
  | b, d :: l, c => by
    rw [List.cons_append, oddE_cons, oddE_cons, odd_snoc]
theorem odd_trl (l : List UInt8) : oddE false l = decide (trl l % 2 = 1) := by
  rw [← List.reverse_reverse l]
  generalize l.reverse = r
  induction r with
  | nil => rfl
  | cons c t ih =>
    rw [List.reverse_cons, odd_snoc, trl_snoc, ih]
    by_cases e : c = 92
    · subst e
      rw [if_pos rfl]
      have : ((92 : UInt8).toNat = 92) = True := by simp
      simp only [this, decide_true, Bool.true_and]
      rw [Bool.eq_iff_iff]
      simp only [Bool.not_eq_true', decide_eq_false_iff_not, decide_eq_true_eq]
      omega
    · rw [if_neg e]
      have : decide (c.toNat = 92) = false := decide_eq_false (fun h => e (UInt8.toNat_inj.1 h))
      rw [this]
      rfl
theorem rep_skip {c : UInt8} (h : c.toNat ≠ 34) (k : Nat) (t : List UInt8) : Lib.replaceK [34] [34, 34] k (c :: t) = c :: Lib.replaceK [34] [34, 34] k t := by
  cases k with
  | zero => rfl
  | succ k =>
    have hc : ((34 : UInt8) == c) = false := by
      rw [beq_eq_false_iff_ne]
      intro e
      exact h (by rw [← e]; rfl)
    have hi : Lib.index (c :: t) [34] = if Lib.index t [34] == -1 then -1 else Lib.index t [34] + 1 := by
      rw [Lib.index]
      simp [List.isPrefixOf, hc]
    unfold Lib.replaceK
    rw [hi]
    have hge := Lib.index_ge t [34]
    by_cases e : Lib.index t [34] = -1
    · simp [e]
    · have e1 : (Lib.index t [34] == -1) = false := by rw [beq_eq_false_iff_ne]; exact e
      have e2 : (Lib.index t [34] + 1 == -1) = false := by rw [beq_eq_false_iff_ne]; omega
      simp only [e1, e2, Bool.false_eq_true, if_false]
      have e3 : (Lib.index t [34] + 1).toNat = (Lib.index t [34]).toNat + 1 := by omega
      rw [e3, List.take_succ_cons]
      simp [Nat.add_assoc]
theorem rep_dbl : ∀ (s : List UInt8) (k : Nat), qn s ≤ k → Lib.replaceK [34] [34, 34] k s = dblL s
  | [], k, _ => by cases k <;> rfl
  | c :: t, k, h => by
    rw [qn_cons] at h
    by_cases e : c.toNat = 34
    · rw [if_pos e] at h
      cases k with
      | zero => omega
      | succ k =>
        have hc : c = 34 := UInt8.toNat_inj.1 e
        subst hc
        rw [Lib.replaceK_hit [34] [34, 34] k (34 :: t) 0 (by rw [Lib.index]; rfl)]
        have := rep_dbl t k (by omega)
        simp only [List.take_zero, List.nil_append, Nat.zero_add, List.length_cons, List.length_nil, List.drop_succ_cons, List.drop_zero]
        rw [this, dblL_q rfl]
        rfl
    · rw [rep_skip e, rep_dbl t k (by rw [if_neg e] at h; omega), dblL_p e]
theorem rep_all (s : List UInt8) : Lib.replaceAll s [34] [34, 34] = dblL s := by
  unfold Lib.replaceAll Lib.replace
  rw [if_neg (by decide)]
  refine rep_dbl s _ ?_
  unfold Lib.replaceNum
  rw [if_pos (.inl (by decide)), Lib.count_one]
  unfold qn List.count
  refine Nat.le_of_eq (List.countP_congr (fun c _ => ?_))
  simp only [decide_eq_true_eq, beq_iff_eq]
  exact ⟨fun h => UInt8.toNat_inj.1 h, fun h => by rw [h]; rfl⟩
/-- endsOpen. -/
theorem cEndsOpen (s : ByteArray) (hs : s.size ≤ 100000) (w : World) :
    Calls Tryd.prog 60 #[.string s] w fun e w' => e = .returned (.bool (oddE false s.data.toList)) ∧ w = w' := by
  have ht := trl_trim s.data.toList
  have hT := fun w => Tryd.strings_TrimRight_one s 92 (by decide) w (by omega)
  obtain ⟨T, hTe⟩ : ∃ T : ByteArray, T = ⟨(Lib.trimRightB s.data.toList 92).toArray⟩ := ⟨_, rfl⟩
  rw [← hTe] at hT
  have hTz : T.size + trl s.data.toList = s.size := by
    rw [hTe, size_len s, ← ht]; rfl
  have HT := Lib.hid hT
  rw [odd_trl]
  clear hT ht hTe
  generalize trl s.data.toList = n at *
  have h1 : (s.size : Int) - (T.size : Int) = (n : Nat) := by omega
  have h2 : ((n : Nat) : Int).tmod 2 = ((n % 2 : Nat) : Int) := rfl
  go_enter Tryd.func60, Tryd.ntmps60
  go_wp2_with (go_at_call 75; refine (HT.out _).mono ?_; rintro e w1 ⟨rfl, rfl⟩)
  go_ret
  refine ⟨ret_b ?_, rfl⟩
  rw [Bool.eq_iff_iff, beq_iff_eq, decide_eq_true_eq]
  omega
/-- How an argument may be written. -/
def WordOf (a word : List UInt8) : Prop := (word = a ∧ a ≠ [] ∧ (∀ c t, a = c :: t → c.toNat ≠ 34) ∧ oddE false a = false) ∨ word = 34 :: (dblL a ++ [34])
set_option maxRecDepth 100000 in
set_option maxHeartbeats 4000000 in
/-- writeWord. -/
theorem cWriteWord (a : ByteArray) (ha : a.size ≤ 2000) (m : Int) (w : World) (hm : w.cell? ⟨0, 0, none⟩ = some (.int .i64 m)) :
    Calls Tryd.prog 36 #[.string a] w fun e w' => (∃ o : ByteArray, e = .returned (.string o) ∧ o.size ≤ 2 * a.size + 2 ∧ WordOf a.data.toList o.data.toList) ∧ Below w.heap.size w w' := by
  have hcl := Lib.countB_le ⟨#[34]⟩ (by decide) a.size a (Nat.le_refl _)
  have HR := Lib.hid (fun w hm => Tryd.strings_ReplaceAll a ⟨#[34]⟩ ⟨#[34, 34]⟩ m w (by omega) hm (by decide) (by have : (⟨#[34, 34]⟩ : ByteArray).size = 2 := rfl; rw [this]; omega))
  have hrep : Lib.replaceAll a.data.toList [34] [34, 34] = dblL a.data.toList := rep_all _
  rw [show (⟨#[34]⟩ : ByteArray).data.toList = [34] from rfl, show (⟨#[34, 34]⟩ : ByteArray).data.toList = [34, 34] from rfl, hrep] at HR
  have hdl := dbl_len a.data.toList
  have hqn : qn a.data.toList ≤ a.data.toList.length := List.countP_le_length
  rw [← size_len] at hdl hqn
  obtain ⟨D, hD⟩ : ∃ D : ByteArray, D = ⟨(dblL a.data.toList).toArray⟩ := ⟨_, rfl⟩
  rw [← hD] at HR
  have hDd : D.data.toList = dblL a.data.toList := by rw [hD]
  have hDz : D.size ≤ 2 * a.size := by rw [size_len, hDd]; omega
  have HQ : Hid (((⟨#[34]⟩ ++ D) ++ ⟨#[34]⟩ : ByteArray).size ≤ 2 * a.size + 2 ∧ WordOf a.data.toList ((⟨#[34]⟩ ++ D) ++ ⟨#[34]⟩ : ByteArray).data.toList) := Lib.hid ⟨by rw [ByteArray.size_append, ByteArray.size_append]; show 1 + D.size + 1 ≤ _; omega, .inr (by rw [app_data, app_data, hDd]; rfl)⟩
  have HE := Lib.hid (fun w => cEndsOpen a (by omega) w)
  have HC := Lib.hid (fun w => cContainsAny a (by unfold maxLen; omega) w)
  have HM := Lib.hid hm
  have hml := cell_lt hm
  have HMl := Lib.hid hml
  have hsz1 : ((⟨#[34]⟩ : ByteArray).size : Int) = 1 := rfl
  clear hm hcl hrep hdl hqn hD hDd hml
  by_cases h0 : a.size = 0
  · have e : a = ⟨#[]⟩ := by
      apply ba_eq
      have : a.data.toList.length = 0 := by rw [← size_len]; exact h0
      rw [List.eq_nil_of_length_eq_zero this]
    subst e
    go_enter Tryd.func36, Tryd.ntmps36
    go_wp2_with (go_at_call 61; refine (HR.out _ HM.out).mono ?_; rintro e w1 ⟨rfl, hb⟩)
    go_ret
    exact ⟨⟨_, rfl, HQ.out⟩, hb⟩
  · have hne := toList_ne h0
    have HN := Lib.hid hne.2
    have hemp := hne.1
    have hp : 0 < a.size := by omega
    have hcons := dr_cons hp
    rw [data_dr] at hcons
    clear hne
    by_cases h34 : ((a[0]).toNat : Int) = 34
    · have hB : (((a[0]).toNat : Int) != 34) = false := by simp [h34]
      clear h34
      go_enter Tryd.func36, Tryd.ntmps36
      go_wp2_with (go_at_call 61; refine (HR.out _ HM.out).mono ?_; rintro e w1 ⟨rfl, hb⟩)
      go_ret
      exact ⟨⟨_, rfl, HQ.out⟩, hb⟩
    · have hB : (((a[0]).toNat : Int) != 34) = true := by simp [h34]
      have hw : oddE false a.data.toList = false → a.size ≤ 2 * a.size + 2 ∧ WordOf a.data.toList a.data.toList := fun ho => ⟨by omega, .inl ⟨rfl, by rw [hcons]; simp, fun c t e => by
        rw [hcons] at e
        injection e with e1 _
        rw [← e1]
        omega, ho⟩⟩
      have HW := Lib.hid hw
      generalize oddE false a.data.toList = od at *
      clear h34 hw hcons
      cases od
      all_goals
        go_enter Tryd.func36, Tryd.ntmps36
        go_wp2_with (first
          | (go_at_call 35; refine (HC.out _).mono ?_; rintro e w1 ⟨⟨b, rfl, _⟩, hb⟩; have HB1 := Lib.hid hb; have HM1 := Lib.hid ((hb.cell (p := ⟨0, 0, none⟩) HMl.out).trans HM.out); clear hb)
          | (go_at_call 60; refine (HE.out _).mono ?_; rintro e w2 ⟨rfl, rfl⟩)
          | (go_at_call 61; refine (HR.out _ HM1.out).mono ?_; rintro e w3 ⟨rfl, hb⟩; have HB3 := Lib.hid (HB1.out.trans (hb.mono HB1.out.size)); clear hb))
        all_goals
          go_ret
          first
          | exact ⟨⟨_, rfl, HQ.out⟩, HB3.out⟩
          | exact ⟨⟨_, rfl, HW.out (by first | trivial | rfl)⟩, HB1.out⟩
end Go.Proofs.YtfcbpehgkpmniaaDoor
