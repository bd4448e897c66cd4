/- Walks of the document's own answers to layer 1: numbers. -/
import Derived.Test.YtonhglhdbpmnhaaDoorNa
import Derived.Deep.DeepCutAuto
import Derived.Deep.CutBlock
namespace Go.Proofs.YtonhglhdbpmnhaaDoor
open Go.RowKit

/-- What the document's number answers: a value, a place, an error. -/
def nAns (s : ByteArray) (M : Md) (i : Nat) : Int × Int × Int :=
  if dCount s i = 0 ∧ nPart s i = false then (0, 0, 4)
  else if within (nVal s M i) = true then (nVal s M i, nTo s M i, 0) else (0, nTo s M i, 5)
def R40 (s : ByteArray) (i : Nat) (v1 v11 : Value) : Prop :=
  ∃ k : Nat, k ≤ 9 ∧ i + k ≤ s.size ∧ v1 = .int .i64 ((i + k : Nat)) ∧ v11 = .int .i64 (dVal s i k) ∧ (∀ j, j < k → isDig (bt s (i + j)) = true)
def R40b (s : ByteArray) (i : Nat) (v1 v12 v13 : Value) : Prop :=
  ∃ k : Nat, k ≤ 9 ∧ i + k ≤ s.size ∧ v1 = .int .i64 ((i + k : Nat)) ∧ v12 = .int .i64 (dVal s i k) ∧ v13 = .int .i64 (p10 k) ∧ (∀ j, j < k → isDig (bt s (i + j)) = true)
theorem n59i (s : ByteArray) (j : Nat) (h : j < s.size) (w : World) : Calls Tryd.prog 59 #[.int .u8 ((s[j]'h).toNat)] w fun e w' => e = .returned (.bool (isDig (bt s j))) ∧ w = w' := by
  have hb : bt s j = (s[j]'h).toNat := by simp [bt, h]
  rw [hb]
  exact n59 _ w
set_option maxHeartbeats 1000000 in
set_option maxRecDepth 100000 in
/-- 40: number. -/
theorem n40 (s : ByteArray) (i c : Nat) (sz vs here one : Int) (w : World) (hs : s.size ≤ 100000) (hi : i ≤ s.size) (ho : argF c sz vs here = some one) :
    Calls Tryd.prog 40 #[.string s, .int .i64 i, .int .u8 c, .agg #[.int .i64 sz, .int .i64 vs, .int .i64 here]] w fun e w' => e = .returned (.tuple #[.int .i64 (nAns s ⟨one, sz, vs, here, false⟩ i).1, .int .i64 (nAns s ⟨one, sz, vs, here, false⟩ i).2.1, .int .i64 (nAns s ⟨one, sz, vs, here, false⟩ i).2.2]) ∧ Below w.heap.size w w' := by
  have hds := dCount_size (s := s) hi
  have hd9 := dCount_le s i
  go_enter Tryd.func40, Tryd.ntmps40
  go_upto_block 0 with fail
  go_cut [1, 11] (fun v1 v11 wx => v1 = .int .i64 ((i + dCount s i : Nat)) ∧ v11 = .int .i64 (dVal s i (dCount s i)) ∧ wx = w.alloc (.cells #[.int .i64 sz, .int .i64 vs, .int .i64 here] 38))
  case first =>
    go_wp2_with fail
    go_loop [1, 11] (fun v1 v11 => R40 s i v1 v11) (fun v1 _ => s.size - (intOf v1).toNat)
    case atStart => exact ⟨0, by omega, by omega, rfl, rfl, fun j hj => by omega⟩
    case round =>
      obtain ⟨k, hk9, hks, rfl, rfl, hb⟩ := hrel
      have hv := dVal_bd hk9 hb
      have HB := Lib.hid hb
      clear hb
      by_cases hlt : i + k < s.size
      · have hbt : bt s (i + k) = (s[i + k]'hlt).toNat := by simp [bt, hlt]
        have HT := Lib.hid hbt
        by_cases hdg : isDig (bt s (i + k)) = true
        · have hdd := isDig_iff.1 hdg
          rw [hbt] at hdd
          have hd1 : 48 ≤ ((s[i + k]'hlt).toNat : Int) := by omega
          have hd2 : ((s[i + k]'hlt).toNat : Int) ≤ 57 := by omega
          have HD := Lib.hid hdg
          have h59 : ∀ w, Calls Tryd.prog 59 #[.int .u8 ((s[i + k]'hlt).toNat)] w fun e w' => e = .returned (.bool true) ∧ w = w' := fun w => by
            have := n59i s (i + k) hlt w
            rw [hdg] at this; exact this
          have H59 := Lib.hid h59
          clear hbt hdg hdd h59
          by_cases hk : k < 9
          · go_wp2_with (go_at_call 59; refine (H59.out _).mono ?_; rintro e w' ⟨rfl, rfl⟩)
            have hval : ((dVal s i (k + 1) : Nat) : Int) = (dVal s i k : Int) * 10 + (((s[i + k]'hlt).toNat : Int) - 48) := by
              rw [dVal, HT.out]; omega
            refine ⟨⟨k + 1, by omega, by omega, by go_num, by rw [hval], fun j hj => ?_⟩, by simp [intOf]; omega⟩
            by_cases hjk : j = k
            · subst hjk; exact HD.out
            · exact HB.out j (by omega)
          · have hc : dCount s i = k := dCount_eq hk9 HB.out (.inr (by omega))
            have HC := Lib.hid hc
            clear hc
            go_wp2_with (go_at_call 59; refine (H59.out _).mono ?_; rintro e w' ⟨rfl, rfl⟩)
            go_meet
            case rel => rw [HC.out]; exact ⟨rfl, rfl, rfl⟩
        · have hdg' : isDig (bt s (i + k)) = false := by simpa using hdg
          have h59 : ∀ w, Calls Tryd.prog 59 #[.int .u8 ((s[i + k]'hlt).toNat)] w fun e w' => e = .returned (.bool false) ∧ w = w' := fun w => by
            have := n59i s (i + k) hlt w
            rw [hdg'] at this; exact this
          have H59 := Lib.hid h59
          have HC := Lib.hid (dCount_eq hk9 HB.out (.inl hdg'))
          clear hbt hdg hdg' h59
          go_wp2_with (go_at_call 59; refine (H59.out _).mono ?_; rintro e w' ⟨rfl, rfl⟩)
          go_meet
          case rel => rw [HC.out]; exact ⟨rfl, rfl, rfl⟩
      · have hb0 : bt s (i + k) = 0 := by simp [bt, hlt]
        have HC := Lib.hid (dCount_eq hk9 HB.out (.inl (by rw [hb0]; rfl)))
        clear hb0
        go_wp2_with fail
        go_meet
        case rel => rw [HC.out]; exact ⟨rfl, rfl, rfl⟩
  case rest =>
    obtain ⟨rfl, rfl, rfl⟩ := hcut
    have hnE := nEnd_le (s := s) hi
    have hnT := nTo_le (s := s) (M := ⟨one, sz, vs, here, false⟩) hi
    have hv0 := dVal_bd' s i
    go_upto_region 7 with fail
    go_cut [66] (fun v66 wx => v66 = .bool (nPart s i) ∧ wx = w.alloc (.cells #[.int .i64 sz, .int .i64 vs, .int .i64 here] 38))
    case first =>
      by_cases h1 : i + dCount s i + 1 < s.size
      · have h0 : i + dCount s i < s.size := by omega
        have hb0 : bt s (i + dCount s i) = (s[i + dCount s i]'h0).toNat := by simp [bt, h0]
        have HB0 := Lib.hid hb0
        clear hb0
        cases h46 : ((((s[i + dCount s i]'h0).toNat : Nat) : Int) == 46)
        · have HN : Hid (nPart s i = false) := Lib.hid (by unfold nPart; rw [HB0.out, h46]; rfl)
          go_wp2_with fail
          go_meet
          case rel => rw [HN.out]; exact ⟨rfl, rfl⟩
        · have HN : Hid (nPart s i = isDig (bt s (i + dCount s i + 1))) := Lib.hid (by unfold nPart; rw [HB0.out, h46]; rfl)
          have h59 : ∀ w, Calls Tryd.prog 59 #[.int .u8 ((s[i + dCount s i + 1]'h1).toNat)] w fun e w' => e = .returned (.bool (isDig (bt s (i + dCount s i + 1)))) ∧ w = w' := fun w => n59i s (i + dCount s i + 1) h1 w
          have H59 := Lib.hid h59
          clear h59
          go_wp2_with (go_at_call 59; refine (H59.out _).mono ?_; rintro e w' ⟨rfl, rfl⟩)
          go_meet
          case rel => rw [HN.out]; exact ⟨rfl, rfl⟩
      · have hz : bt s (i + dCount s i + 1) = 0 := by simp [bt, h1]
        have hnp : nPart s i = false := by unfold nPart; rw [hz]; simp [isDig]
        have HN := Lib.hid hnp
        clear hz hnp
        go_wp2_with fail
        go_meet
        case rel => rw [HN.out]; exact ⟨rfl, rfl⟩
    case rest =>
      obtain ⟨rfl, rfl⟩ := hcut
      go_upto_if 66 with fail
      go_cut [1, 12, 13, 15] (fun v1 v12 v13 v15 wx => ∃ j : Nat, j = (if nPart s i then dCount s (i + dCount s i + 1) else 0) ∧ v1 = .int .i64 (nEnd s i) ∧ v12 = .int .i64 (dVal s (i + dCount s i + 1) j) ∧ v13 = .int .i64 (p10 j) ∧ v15 = .int .i64 ((dCount s i + j : Nat)) ∧ wx = w.alloc (.cells #[.int .i64 sz, .int .i64 vs, .int .i64 here] 38))
      case first =>
        cases hnp : nPart s i
        · have HE : Hid (nEnd s i = i + dCount s i) := Lib.hid (by unfold nEnd; rw [hnp]; rfl)
          have HN := Lib.hid hnp
          go_wp2_with fail
          go_meet
          case rel => exact ⟨0, by rw [HN.out]; rfl, by rw [HE.out]; first | done | go_num, rfl, rfl, by go_num, rfl⟩
        · have HE : Hid (nEnd s i = i + dCount s i + 1 + dCount s (i + dCount s i + 1)) := Lib.hid (by unfold nEnd; rw [hnp]; rfl)
          have hlt1 : i + dCount s i + 1 < s.size := by
            unfold nPart at hnp
            simp only [Bool.and_eq_true] at hnp
            have := isDig_iff.1 hnp.2
            exact bt_lt (by omega)
          have HN := Lib.hid hnp
          go_wp2_with fail
          go_loop [1, 12, 13] (fun v1 v12 v13 => R40b s (i + dCount s i + 1) v1 v12 v13) (fun v1 _ _ => s.size - (intOf v1).toNat)
          case atStart => exact ⟨0, by omega, by omega, by go_num, rfl, rfl, fun j hj => by omega⟩
          case round =>
            obtain ⟨j, hj9, hjs, rfl, rfl, rfl, hb⟩ := hrel
            have hv := dVal_bd hj9 hb
            have hpj := p10_le hj9
            have hpp := p10_pos j
            have HB := Lib.hid hb
            clear hb
            by_cases hlt : i + dCount s i + 1 + j < s.size
            · have hbt : bt s (i + dCount s i + 1 + j) = (s[i + dCount s i + 1 + j]'hlt).toNat := by simp [bt, hlt]
              have HT := Lib.hid hbt
              by_cases hdg : isDig (bt s (i + dCount s i + 1 + j)) = true
              · have hdd := isDig_iff.1 hdg
                rw [hbt] at hdd
                have hd1 : 48 ≤ ((s[i + dCount s i + 1 + j]'hlt).toNat : Int) := by omega
                have hd2 : ((s[i + dCount s i + 1 + j]'hlt).toNat : Int) ≤ 57 := by omega
                have HD := Lib.hid hdg
                have h59 : ∀ w, Calls Tryd.prog 59 #[.int .u8 ((s[i + dCount s i + 1 + j]'hlt).toNat)] w fun e w' => e = .returned (.bool true) ∧ w = w' := fun w => by
                  have := n59i s (i + dCount s i + 1 + j) hlt w
                  rw [hdg] at this; exact this
                have H59 := Lib.hid h59
                clear hbt hdg hdd h59
                by_cases hk : j < 9
                · go_wp2_with (go_at_call 59; refine (H59.out _).mono ?_; rintro e w' ⟨rfl, rfl⟩)
                  have hval : ((dVal s (i + dCount s i + 1) (j + 1) : Nat) : Int) = (dVal s (i + dCount s i + 1) j : Int) * 10 + (((s[i + dCount s i + 1 + j]'hlt).toNat : Int) - 48) := by
                    rw [dVal, HT.out]; omega
                  refine ⟨⟨trivial, ?_⟩, by simp [intOf]; omega⟩
                  repeat apply Exists.intro
                  refine ⟨?_, rfl⟩
                  exact ⟨j + 1, by omega, by omega, by go_num, by rw [hval], by rw [p10_succ]; go_num, fun l hl => (by
                    by_cases hjk : l = j
                    · rw [hjk]; exact HD.out
                    · exact HB.out l (by omega))⟩
                · have HC := Lib.hid (dCount_eq hj9 HB.out (.inr (by omega)))
                  go_wp2_with (go_at_call 59; refine (H59.out _).mono ?_; rintro e w' ⟨rfl, rfl⟩)
                  go_meet
                  case rel => exact ⟨j, by rw [HN.out, HC.out]; rfl, by rw [HE.out, HC.out]; first | done | go_num, rfl, rfl, by go_num, rfl⟩
              · have hdg' : isDig (bt s (i + dCount s i + 1 + j)) = false := by simpa using hdg
                have h59 : ∀ w, Calls Tryd.prog 59 #[.int .u8 ((s[i + dCount s i + 1 + j]'hlt).toNat)] w fun e w' => e = .returned (.bool false) ∧ w = w' := fun w => by
                  have := n59i s (i + dCount s i + 1 + j) hlt w
                  rw [hdg'] at this; exact this
                have H59 := Lib.hid h59
                have HC := Lib.hid (dCount_eq hj9 HB.out (.inl hdg'))
                clear hbt hdg hdg' h59
                go_wp2_with (go_at_call 59; refine (H59.out _).mono ?_; rintro e w' ⟨rfl, rfl⟩)
                go_meet
                case rel => exact ⟨j, by rw [HN.out, HC.out]; rfl, by rw [HE.out, HC.out]; first | done | go_num, rfl, rfl, by go_num, rfl⟩
            · have hb0 : bt s (i + dCount s i + 1 + j) = 0 := by simp [bt, hlt]
              have HC := Lib.hid (dCount_eq hj9 HB.out (.inl (by rw [hb0]; rfl)))
              clear hb0
              go_wp2_with fail
              go_meet
              case rel => exact ⟨j, by rw [HN.out, HC.out]; rfl, by rw [HE.out, HC.out]; first | done | go_num, rfl, rfl, by go_num, rfl⟩
      case rest =>
        obtain ⟨j, hj, rfl, rfl, rfl, rfl, rfl⟩ := hcut
        have hj9 : j ≤ 9 := by
          rw [hj]; split
          · exact dCount_le _ _
          · omega
        have hjp : nPart s i = true → 0 < j := fun h => by
          rw [hj, h]
          unfold nPart at h
          simp only [Bool.and_eq_true] at h
          exact dCount_pos h.2
        have hdj : dVal s (i + dCount s i + 1) j < 1000000000 := by
          refine dVal_bd hj9 (fun l hl => ?_)
          rw [hj] at hl
          split at hl
          · exact dCount_all hl
          · omega
        have hz : (dCount s i = 0 ∧ nPart s i = false) ↔ dCount s i + j = 0 := by
          constructor
          · rintro ⟨h1, h2⟩; rw [hj, h1, h2]; rfl
          · intro h
            refine ⟨by omega, ?_⟩
            cases hp : nPart s i
            · rfl
            · have := hjp hp; omega
        have hval : nVal s ⟨one, sz, vs, here, false⟩ i = dVal s i (dCount s i) * nOne s ⟨one, sz, vs, here, false⟩ i + dVal s (i + dCount s i + 1) j * nOne s ⟨one, sz, vs, here, false⟩ i / p10 j := by
          unfold nVal
          cases hp : nPart s i
          · rw [hp] at hj; subst hj; simp [dVal]
          · rw [hp] at hj; subst hj; simp
        have HJ := Lib.hid hj
        have HZ := Lib.hid hz
        have HV := Lib.hid hval
        clear hj hjp hz hval
        by_cases hcz : dCount s i + j = 0
        · have HA : Hid (nAns s ⟨one, sz, vs, here, false⟩ i = (0, 0, 4)) := Lib.hid (by unfold nAns; rw [if_pos (HZ.out.2 hcz)])
          have hcz' : (dCount s i : Int) + (j : Int) = 0 := by omega
          go_wp2_with fail
          go_ret3
          rw [HA.out]
          exact ⟨rfl, (Below.refl _ _).alloc (Nat.le_refl _) _⟩
        · have hnz : ¬ (dCount s i = 0 ∧ nPart s i = false) := fun h => hcz (HZ.out.1 h)
          have HNZ := Lib.hid hnz
          have hcz' : 0 < (dCount s i : Int) + (j : Int) := by omega
          have hpj := p10_le hj9
          have hpp := p10_pos j
          clear hnz hcz
          go_upto_region 17 with fail
          go_cut [114] (fun v wx => v = .bool (unitF (bt s (nEnd s i)) sz vs).isSome ∧ wx = w.alloc (.cells #[.int .i64 sz, .int .i64 vs, .int .i64 here] 38))
          case first =>
            by_cases hlt : nEnd s i < s.size
            · have h34 : ∀ w, Calls Tryd.prog 34 #[.int .u8 ((s[nEnd s i]'hlt).toNat)] w fun e w' => e = .returned (.bool (unitF (bt s (nEnd s i)) sz vs).isSome) ∧ w = w' := fun w => by
                have hb : bt s (nEnd s i) = (s[nEnd s i]'hlt).toNat := by simp [bt, hlt]
                rw [unitF_isSome _ sz vs 0 0, hb]
                exact n34 _ w
              have H34 := Lib.hid h34
              clear h34
              go_wp2_with (go_at_call 34; refine (H34.out _).mono ?_; rintro e w' ⟨rfl, rfl⟩)
              go_meet
              case rel => exact ⟨rfl, rfl⟩
            · have HS : Hid ((unitF (bt s (nEnd s i)) sz vs).isSome = false) := Lib.hid (by
                have hb : bt s (nEnd s i) = 0 := by simp [bt, hlt]
                rw [hb, unitF_zero]; rfl)
              go_wp2_with fail
              go_meet
              case rel => rw [HS.out]; exact ⟨rfl, rfl⟩
          case rest =>
            obtain ⟨rfl, rfl⟩ := hcut
            go_upto_if 114 with fail
            go_cut [1, 2] (fun v1 v2 wx => ∃ c' : Nat, v1 = .int .i64 (nTo s ⟨one, sz, vs, here, false⟩ i) ∧ v2 = .int .u8 c' ∧ (unitF c' sz vs).getD vs = nOne s ⟨one, sz, vs, here, false⟩ i ∧ wx = w.alloc (.cells #[.int .i64 sz, .int .i64 vs, .int .i64 here] 38))
            case first =>
              rcases hu : unitF (bt s (nEnd s i)) sz vs with _ | x
              · have HT : Hid (nTo s ⟨one, sz, vs, here, false⟩ i = nEnd s i) := Lib.hid (by unfold nTo; rw [hu]; rfl)
                have HO : Hid ((unitF c sz vs).getD vs = nOne s ⟨one, sz, vs, here, false⟩ i) := Lib.hid (by
                  unfold nOne; rw [hu]
                  unfold argF at ho
                  by_cases hk : okB sz vs here = true
                  · rw [if_pos hk] at ho; rw [ho]; rfl
                  · rw [if_neg hk] at ho; cases ho)
                have HU := Lib.hid hu
                clear ho
                go_wp2_with fail
                go_meet
                case rel => exact ⟨c, by rw [HT.out], rfl, HO.out, rfl⟩
              · have hlt : nEnd s i < s.size := bt_lt (fun h0 => by rw [h0, unitF_zero] at hu; cases hu)
                have HT : Hid (nTo s ⟨one, sz, vs, here, false⟩ i = nEnd s i + 1) := Lib.hid (by unfold nTo; rw [hu]; rfl)
                have HO : Hid ((unitF ((s[nEnd s i]'hlt).toNat) sz vs).getD vs = nOne s ⟨one, sz, vs, here, false⟩ i) := Lib.hid (by
                  have hb : bt s (nEnd s i) = (s[nEnd s i]'hlt).toNat := by simp [bt, hlt]
                  unfold nOne; rw [hu, ← hb, hu]; rfl)
                have HU := Lib.hid hu
                clear ho
                go_wp2_with fail
                go_meet
                case rel => exact ⟨(s[nEnd s i]'hlt).toNat, by rw [HT.out]; go_num, rfl, HO.out, rfl⟩
            case rest =>
              obtain ⟨c', rfl, rfl, hone, rfl⟩ := hcut
              have hMo := argF_okay ho false
              have hob := nOne_bd (s := s) hMo i
              have hX := mul_bd hv0 hob.1 hob.2
              have hY := mul_bd hdj hob.1 hob.2
              have hq := div_bd hY.1 hY.2 hpp
              obtain ⟨_, _, k1, k2, _⟩ := hMo
              have h31 : ∀ w, Calls Tryd.prog 31 #[.int .u8 c', .agg #[.int .i64 sz, .int .i64 vs, .int .i64 here]] w fun e w' => e = .returned (.int .i64 (nOne s ⟨one, sz, vs, here, false⟩ i)) ∧ Below w.heap.size w w' := fun w => by
                have := n31 c' sz vs here w k1 k2
                rw [hone] at this; exact this
              have H31 := Lib.hid h31
              cases hw : within (nVal s ⟨one, sz, vs, here, false⟩ i)
              all_goals
                have hw' := hw
                rw [HV.out] at hw'
                have HA := Lib.hid hw
                have h43 : ∀ w, Calls Tryd.prog 43 #[.int .i64 (dVal s i (dCount s i) * nOne s ⟨one, sz, vs, here, false⟩ i + dVal s (i + dCount s i + 1) j * nOne s ⟨one, sz, vs, here, false⟩ i / p10 j)] w fun e w' => e = .returned (.bool _) ∧ w = w' := fun w => n43 _ w
                rw [hw'] at h43
                have H43 := Lib.hid h43
                clear h31 hone hw hw' h43
                go_wp2_with (first
                  | (go_at_call 31; refine (H31.out _).mono ?_; rintro e w1 ⟨rfl, hb1⟩)
                  | (go_at_call 43; refine (H43.out _).mono ?_; rintro e w' ⟨rfl, rfl⟩))
                go_ret3
                unfold nAns
                rw [if_neg HNZ.out, HA.out]
                refine ⟨?_, nbox hb1⟩
                first | rfl | (rw [HV.out]; rfl) | (simp only [if_true]; rw [HV.out]; rfl)
end Go.Proofs.YtonhglhdbpmnhaaDoor
