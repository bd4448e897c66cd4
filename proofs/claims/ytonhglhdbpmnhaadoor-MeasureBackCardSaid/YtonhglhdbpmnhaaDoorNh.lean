/- Walks of the document's own answers to layer 1: expressions. -/
import Derived.Test.YtonhglhdbpmnhaaDoorNg
import Derived.Test.YtonhglhdbpmnhaaDoorMh
import Derived.Deep.RegionHeld3
namespace Go.Proofs.YtonhglhdbpmnhaaDoor
open Go.RowKit

theorem keepR {s : ByteArray} {sc : Nat} {sz vs here : Int} {fm : Bool} {w w1 : World} (h : RB s sc sz vs here fm w w1) : w1.cell? ⟨w.heap.size, 0, none⟩ = some (.string s) ∧ w1.cell? ⟨w.heap.size, 1, none⟩ = some (.int .u8 sc) ∧ w1.cell? ⟨w.heap.size, 2, none⟩ = some (.int .i64 sz) ∧ w1.cell? ⟨w.heap.size, 3, none⟩ = some (.int .i64 vs) ∧ w1.cell? ⟨w.heap.size, 4, none⟩ = some (.int .i64 here) ∧ w1.cell? ⟨w.heap.size, 5, none⟩ = some (.bool fm) ∧ RB s sc sz vs here fm w w1 := by
  obtain ⟨c0, c1, c2, c3, c4, c5⟩ := h.cells
  exact ⟨c0, c1, c2, c3, c4, c5, h⟩
def R41 (s : ByteArray) (sc : Nat) (sz vs here one : Int) (fm : Bool) (f deep : Nat) (r : Res) (w : World) (v1 v9 v10 : Value) (wr : World) : Prop :=
  ∃ (f' : Nat) (n n' : Int) (p : Nat), v9 = .int .i64 n' ∧ (fm = false → n' = n) ∧ v1 = .int .i64 p ∧ p ≤ s.size ∧ RB s sc sz vs here fm w wr ∧
    ((v10 = .int .i64 0 ∧ f' ≤ f ∧ ev s ⟨one, sz, vs, here, fm⟩ (f' + 1) (.loop n p deep) = some r ∧ within n = true) ∨ (∃ x : Nat, x ≠ 0 ∧ v10 = .int .i64 x ∧ r = .err x))
set_option maxRecDepth 100000 in
set_option maxHeartbeats 1000000 in
/-- 41: sum, given what operands come to. -/
theorem n41 (s : ByteArray) (hs : s.size ≤ 100000) (sc : Nat) (sz vs here one : Int) (fm : Bool) (f i deep : Nat) (r : Res) (hi : i ≤ s.size) (hd : deep ≤ 20) (hev : ev s ⟨one, sz, vs, here, fm⟩ (f + 1) (.sum i deep) = some r)
    (ih : ∀ f' i' r', f' ≤ f → ev s ⟨one, sz, vs, here, fm⟩ f' (.opd i' deep) = some r' → i' ≤ s.size → ROpd s sc sz vs here fm i' deep r') : RSum s sc sz vs here fm i deep r := by
  intro w
  simp only [ev] at hev
  rcases hov : ev s ⟨one, sz, vs, here, fm⟩ f (.opd i deep) with _ | r1
  · rw [hov] at hev; cases hev
  rw [hov] at hev
  have hP := ih f i r1 (Nat.le_refl _) hov hi
  rcases r1 with ⟨n, en⟩ | x
  · simp only at hev
    have hok := ev_ok _ _ _ _ _ _ hov hi
    rcases f with _ | f
    · cases hov
    obtain ⟨hnw, hito, htos⟩ := hok
    have HP := Lib.hid (fun w => spec_ft (hP w))
    have HEV := Lib.hid hev
    have HIH := Lib.hid ih
    clear hP hev ih hov
    go_enter Tryd.func41, Tryd.ntmps41
    go_wp2_with (first
      | (go_at_call 60; refine (HP.out _).mono ?_; rintro e w1 ⟨⟨n', hn', rfl⟩, hb1⟩; have hr1 := (RB.init s sc sz vs here fm w).below hb1; have HN := Lib.hid hn'; clear hn'))
    go_loopw [1, 9, 10] (fun v1 v9 v10 wr => R41 s sc sz vs here one fm f deep r w v1 v9 v10 wr) (fun v1 _ _ _ => s.size - (intOf v1).toNat)
    case atStart => exact ⟨f, n, n', en, rfl, HN.out, rfl, htos, hr1, .inl ⟨rfl, Nat.le_refl _, HEV.out, hnw⟩⟩
    case round =>
      obtain ⟨f', m, m', p, rfl, hm', rfl, hps, hr, hst⟩ := hrel
      have HM := Lib.hid hm'
      clear hm' hr1
      rcases hst with ⟨rfl, hf', hev', hmw⟩ | ⟨x, hx, rfl, rfl⟩
      · obtain ⟨c0, c1, c2, c3, c4, c5⟩ := hr.cells
        have h62 : ∀ w, Calls Tryd.prog 62 #[rdr s sc sz vs here fm, .int .i64 p, .int .i64 deep] w fun e w' => e = .returned (.int .i64 (skp s deep p)) ∧ Below w.heap.size w w' := fun w => n62 s sc sz vs here fm p deep w hs hps (by omega)
        have hql := skp_le (deep := deep) hps
        have h61 : ∀ w, Calls Tryd.prog 61 #[rdr s sc sz vs here fm, .int .i64 ((skp s deep p : Nat))] w _ := fun w => n61 s sc sz vs here fm (skp s deep p) w hs hql
        have H62 := Lib.hid h62
        have H61 := Lib.hid h61
        clear h62 h61
        simp only [ev] at hev'
        have hop := opIx_le s (skp s deep p)
        by_cases h13 : opIx s (skp s deep p) = 13
        · rw [if_pos h13] at hev'
          cases hev'
          rw [h13] at H61
          have he := opS_empty
          clear h13 hop
          go_wp2_with fail
          go_region_held3 (fun w' => w'.cell? ⟨w.heap.size, 0, none⟩ = some (.string s) ∧ w'.cell? ⟨w.heap.size, 1, none⟩ = some (.int .u8 sc) ∧ w'.cell? ⟨w.heap.size, 2, none⟩ = some (.int .i64 sz) ∧ w'.cell? ⟨w.heap.size, 3, none⟩ = some (.int .i64 vs) ∧ w'.cell? ⟨w.heap.size, 4, none⟩ = some (.int .i64 here) ∧ w'.cell? ⟨w.heap.size, 5, none⟩ = some (.bool fm) ∧ RB s sc sz vs here fm w w')
            (first | exact keepR hr | exact keepR hr.drew | exact keepR (hr.drew.below hba) | exact keepR ((hr.drew.below hba).below hbb))
            (first | (go_at_call 62; refine (H62.out _).mono ?_; rintro e wa ⟨rfl, hba⟩) | (go_at_call 61; refine (H61.out _).mono ?_; rintro e wb ⟨rfl, hbb⟩))
          have hr3 := (hr.drew.below hba).below hbb
          obtain ⟨d0, d1, d2, d3, d4, d5⟩ := hr3.cells
          clear hba hbb c0 c1 c2 c3 c4 c5
          go_wp2_with fail
          go_ret3
          exact ⟨⟨_, HM.out, rfl⟩, hr3.2⟩
        · rw [if_neg h13] at hev'
          obtain ⟨o1, o2⟩ := op_end h13
          have hj : opIx s (skp s deep p) < 13 := by omega
          have hne := opS_some hj
          generalize opIx s (skp s deep p) = j at hev' o1 o2 hj hne H61
          rcases hov : ev s ⟨one, sz, vs, here, fm⟩ f' (.opd (skp s deep p + (opS j).size) deep) with _ | r1
          · rw [hov] at hev'; cases hev'
          rw [hov] at hev'
          have hP := HIH.out f' _ r1 (by omega) hov o1
          clear h13 hop
          clear HP HEV HIH
          rcases r1 with ⟨b, t⟩ | x
          · simp only at hev'
            have hok := ev_ok _ _ _ _ _ _ hov o1
            obtain ⟨hbw, hpt, hts⟩ := hok
            cases fm
            · have hPs : ∀ w, Calls Tryd.prog 60 #[rdr s sc sz vs here false, .int .i64 ((skp s deep p : Int) + ((opS j).size : Int)), .int .i64 deep] w fun e w' => e = .returned (.tuple #[.int .i64 b, .int .i64 t, .int .i64 0]) ∧ Below w.heap.size w w' := fun w => by
                have h := spec_ff (hP w); rwa [Int.natCast_add] at h
              have HQ := Lib.hid hPs
              have hmm := HM.out rfl
              subst hmm
              have h63 := fun w => n63 j hj m' b w hmw hbw
              clear HM HN
              rcases hrk : rk false j m' b with v | x
              · rw [hrk] at hev'
                simp only [rkV, hrk] at h63
                have H63 := Lib.hid h63
                have HEV' := Lib.hid hev'
                have HW := Lib.hid (rk_within hrk)
                clear hP hPs hev' hov hrk h63
                rcases f' with _ | f'
                · cases HEV'.out
                go_wp2_with fail
                go_region_held3 (fun w' => w'.cell? ⟨w.heap.size, 0, none⟩ = some (.string s) ∧ w'.cell? ⟨w.heap.size, 1, none⟩ = some (.int .u8 sc) ∧ w'.cell? ⟨w.heap.size, 2, none⟩ = some (.int .i64 sz) ∧ w'.cell? ⟨w.heap.size, 3, none⟩ = some (.int .i64 vs) ∧ w'.cell? ⟨w.heap.size, 4, none⟩ = some (.int .i64 here) ∧ w'.cell? ⟨w.heap.size, 5, none⟩ = some (.bool false) ∧ RB s sc sz vs here false w w')
                  (first | exact keepR hr | exact keepR hr.drew | exact keepR (hr.drew.below hba) | exact keepR ((hr.drew.below hba).below hbb))
                  (first | (go_at_call 62; refine (H62.out _).mono ?_; rintro e wa ⟨rfl, hba⟩) | (go_at_call 61; refine (H61.out _).mono ?_; rintro e wb ⟨rfl, hbb⟩))
                have hr3 := (hr.drew.below hba).below hbb
                obtain ⟨d0, d1, d2, d3, d4, d5⟩ := hr3.cells
                clear hba hbb c0 c1 c2 c3 c4 c5
                go_wp2_with (first
                  | (go_at_call 60; refine (HQ.out _).mono ?_; rintro e w4 ⟨rfl, hb4⟩; have hr4 := hr3.below hb4; obtain ⟨g0, g1, g2, g3, g4, g5⟩ := hr4.cells)
                  | (go_at_call 63; refine (H63.out _).mono ?_; rintro e w' ⟨rfl, rfl⟩))
                go_roundw
                case rel => exact ⟨f', v, v, t, rfl, fun _ => rfl, rfl, hts, hr4, .inl ⟨rfl, by omega, HEV'.out, HW.out⟩⟩
                case measure => simp [intOf]; omega
              · rw [hrk] at hev'
                cases hev'
                simp only [rkV, hrk] at h63
                have H63 := Lib.hid h63
                have HX := Lib.hid (rk_err hrk)
                clear hP hPs hov hrk h63
                go_wp2_with fail
                go_region_held3 (fun w' => w'.cell? ⟨w.heap.size, 0, none⟩ = some (.string s) ∧ w'.cell? ⟨w.heap.size, 1, none⟩ = some (.int .u8 sc) ∧ w'.cell? ⟨w.heap.size, 2, none⟩ = some (.int .i64 sz) ∧ w'.cell? ⟨w.heap.size, 3, none⟩ = some (.int .i64 vs) ∧ w'.cell? ⟨w.heap.size, 4, none⟩ = some (.int .i64 here) ∧ w'.cell? ⟨w.heap.size, 5, none⟩ = some (.bool false) ∧ RB s sc sz vs here false w w')
                  (first | exact keepR hr | exact keepR hr.drew | exact keepR (hr.drew.below hba) | exact keepR ((hr.drew.below hba).below hbb))
                  (first | (go_at_call 62; refine (H62.out _).mono ?_; rintro e wa ⟨rfl, hba⟩) | (go_at_call 61; refine (H61.out _).mono ?_; rintro e wb ⟨rfl, hbb⟩))
                have hr3 := (hr.drew.below hba).below hbb
                obtain ⟨d0, d1, d2, d3, d4, d5⟩ := hr3.cells
                clear hba hbb c0 c1 c2 c3 c4 c5
                go_wp2_with (first
                  | (go_at_call 60; refine (HQ.out _).mono ?_; rintro e w4 ⟨rfl, hb4⟩; have hr4 := hr3.below hb4; obtain ⟨g0, g1, g2, g3, g4, g5⟩ := hr4.cells)
                  | (go_at_call 63; refine (H63.out _).mono ?_; rintro e w' ⟨rfl, rfl⟩))
                go_roundw
                case rel => exact ⟨0, 0, 0, t, rfl, fun _ => rfl, rfl, hts, hr4, .inr ⟨x, HX.out, rfl, rfl⟩⟩
                case measure => simp [intOf]; omega
            · have hPs : ∀ w, Calls Tryd.prog 60 #[rdr s sc sz vs here true, .int .i64 ((skp s deep p : Int) + ((opS j).size : Int)), .int .i64 deep] w fun e w' => (∃ n' : Int, (true = false → n' = b) ∧ e = .returned (.tuple #[.int .i64 n', .int .i64 t, .int .i64 0])) ∧ Below w.heap.size w w' := fun w => by
                have h := spec_ft (hP w); rwa [Int.natCast_add] at h
              have HQ := Lib.hid hPs
              have hrk : rk true j m b = .val 0 := rfl
              simp only [hrk] at hev'
              have HEV' := Lib.hid hev'
              clear hP hPs hev' hov hrk HM HN
              rcases f' with _ | f'
              · cases HEV'.out
              go_wp2_with fail
              go_region_held3 (fun w' => w'.cell? ⟨w.heap.size, 0, none⟩ = some (.string s) ∧ w'.cell? ⟨w.heap.size, 1, none⟩ = some (.int .u8 sc) ∧ w'.cell? ⟨w.heap.size, 2, none⟩ = some (.int .i64 sz) ∧ w'.cell? ⟨w.heap.size, 3, none⟩ = some (.int .i64 vs) ∧ w'.cell? ⟨w.heap.size, 4, none⟩ = some (.int .i64 here) ∧ w'.cell? ⟨w.heap.size, 5, none⟩ = some (.bool true) ∧ RB s sc sz vs here true w w')
                (first | exact keepR hr | exact keepR hr.drew | exact keepR (hr.drew.below hba) | exact keepR ((hr.drew.below hba).below hbb))
                (first | (go_at_call 62; refine (H62.out _).mono ?_; rintro e wa ⟨rfl, hba⟩) | (go_at_call 61; refine (H61.out _).mono ?_; rintro e wb ⟨rfl, hbb⟩))
              have hr3 := (hr.drew.below hba).below hbb
              obtain ⟨d0, d1, d2, d3, d4, d5⟩ := hr3.cells
              clear hba hbb c0 c1 c2 c3 c4 c5
              go_wp2_with (first
                | (go_at_call 60; refine (HQ.out _).mono ?_; rintro e w4 ⟨⟨b', hb', rfl⟩, hb4⟩; clear hb'; have hr4 := hr3.below hb4; obtain ⟨g0, g1, g2, g3, g4, g5⟩ := hr4.cells))
              go_roundw
              case rel => exact ⟨f', 0, m', t, rfl, fun h => (by cases h), rfl, hts, hr4, .inl ⟨rfl, by omega, HEV'.out, by decide⟩⟩
              case measure => simp [intOf]; omega
          · have hPs : ∀ w, Calls Tryd.prog 60 #[rdr s sc sz vs here fm, .int .i64 ((skp s deep p : Int) + ((opS j).size : Int)), .int .i64 deep] w fun e w' => (∃ a b : Int, e = .returned (.tuple #[.int .i64 a, .int .i64 b, .int .i64 x])) ∧ Below w.heap.size w w' := fun w => by
              have h := spec_e (hP w); rwa [Int.natCast_add] at h
            have HQ := Lib.hid hPs
            have hx0 := ev_err _ _ _ _ _ hov
            have e0 : ((x : Int) != 0) = true := by simp; omega
            simp only at hev'
            clear hP hPs hov
            by_cases hfd : fm = true ∧ deep = 0
            · rw [if_pos hfd] at hev'
              cases hev'
              obtain ⟨rfl, rfl⟩ := hfd
              clear HM HN
              go_wp2_with fail
              go_region_held3 (fun w' => w'.cell? ⟨w.heap.size, 0, none⟩ = some (.string s) ∧ w'.cell? ⟨w.heap.size, 1, none⟩ = some (.int .u8 sc) ∧ w'.cell? ⟨w.heap.size, 2, none⟩ = some (.int .i64 sz) ∧ w'.cell? ⟨w.heap.size, 3, none⟩ = some (.int .i64 vs) ∧ w'.cell? ⟨w.heap.size, 4, none⟩ = some (.int .i64 here) ∧ w'.cell? ⟨w.heap.size, 5, none⟩ = some (.bool true) ∧ RB s sc sz vs here true w w')
                (first | exact keepR hr | exact keepR hr.drew | exact keepR (hr.drew.below hba) | exact keepR ((hr.drew.below hba).below hbb))
                (first | (go_at_call 62; refine (H62.out _).mono ?_; rintro e wa ⟨rfl, hba⟩) | (go_at_call 61; refine (H61.out _).mono ?_; rintro e wb ⟨rfl, hbb⟩))
              have hr3 := (hr.drew.below hba).below hbb
              obtain ⟨d0, d1, d2, d3, d4, d5⟩ := hr3.cells
              clear hba hbb c0 c1 c2 c3 c4 c5
              go_wp2_with (first
                | (go_at_call 60; refine (HQ.out _).mono ?_; rintro e w4 ⟨⟨a, b, rfl⟩, hb4⟩; have hr4 := hr3.below hb4; obtain ⟨g0, g1, g2, g3, g4, g5⟩ := hr4.cells))
              go_ret3
              exact ⟨⟨_, fun h => (by cases h), rfl⟩, hr4.2⟩
            · rw [if_neg hfd] at hev'
              cases hev'
              clear HM HN
              cases fm
              · go_wp2_with fail
                go_region_held3 (fun w' => w'.cell? ⟨w.heap.size, 0, none⟩ = some (.string s) ∧ w'.cell? ⟨w.heap.size, 1, none⟩ = some (.int .u8 sc) ∧ w'.cell? ⟨w.heap.size, 2, none⟩ = some (.int .i64 sz) ∧ w'.cell? ⟨w.heap.size, 3, none⟩ = some (.int .i64 vs) ∧ w'.cell? ⟨w.heap.size, 4, none⟩ = some (.int .i64 here) ∧ w'.cell? ⟨w.heap.size, 5, none⟩ = some (.bool false) ∧ RB s sc sz vs here false w w')
                  (first | exact keepR hr | exact keepR hr.drew | exact keepR (hr.drew.below hba) | exact keepR ((hr.drew.below hba).below hbb))
                  (first | (go_at_call 62; refine (H62.out _).mono ?_; rintro e wa ⟨rfl, hba⟩) | (go_at_call 61; refine (H61.out _).mono ?_; rintro e wb ⟨rfl, hbb⟩))
                have hr3 := (hr.drew.below hba).below hbb
                obtain ⟨d0, d1, d2, d3, d4, d5⟩ := hr3.cells
                clear hba hbb c0 c1 c2 c3 c4 c5
                go_wp2_with (first
                  | (go_at_call 60; refine (HQ.out _).mono ?_; rintro e w4 ⟨⟨a, b, rfl⟩, hb4⟩; have hr4 := hr3.below hb4; obtain ⟨g0, g1, g2, g3, g4, g5⟩ := hr4.cells))
                go_ret3
                exact ⟨⟨_, _, rfl⟩, hr4.2⟩
              · have hd0 : deep ≠ 0 := fun h => hfd ⟨rfl, h⟩
                have e00 : ((deep : Int) == 0) = false := by simp; omega
                clear hfd
                go_wp2_with fail
                go_region_held3 (fun w' => w'.cell? ⟨w.heap.size, 0, none⟩ = some (.string s) ∧ w'.cell? ⟨w.heap.size, 1, none⟩ = some (.int .u8 sc) ∧ w'.cell? ⟨w.heap.size, 2, none⟩ = some (.int .i64 sz) ∧ w'.cell? ⟨w.heap.size, 3, none⟩ = some (.int .i64 vs) ∧ w'.cell? ⟨w.heap.size, 4, none⟩ = some (.int .i64 here) ∧ w'.cell? ⟨w.heap.size, 5, none⟩ = some (.bool true) ∧ RB s sc sz vs here true w w')
                  (first | exact keepR hr | exact keepR hr.drew | exact keepR (hr.drew.below hba) | exact keepR ((hr.drew.below hba).below hbb))
                  (first | (go_at_call 62; refine (H62.out _).mono ?_; rintro e wa ⟨rfl, hba⟩) | (go_at_call 61; refine (H61.out _).mono ?_; rintro e wb ⟨rfl, hbb⟩))
                have hr3 := (hr.drew.below hba).below hbb
                obtain ⟨d0, d1, d2, d3, d4, d5⟩ := hr3.cells
                clear hba hbb c0 c1 c2 c3 c4 c5
                go_wp2_with (first
                  | (go_at_call 60; refine (HQ.out _).mono ?_; rintro e w4 ⟨⟨a, b, rfl⟩, hb4⟩; have hr4 := hr3.below hb4; obtain ⟨g0, g1, g2, g3, g4, g5⟩ := hr4.cells))
                go_ret3
                exact ⟨⟨_, _, rfl⟩, hr4.2⟩
      · have e0 : ((x : Int) == 0) = false := by simp; omega
        go_wp2_with fail
        go_ret3
        exact ⟨⟨_, _, rfl⟩, hr.2⟩
  · cases hev
    have HQ := Lib.hid (fun w => spec_e (hP w))
    have hx0 := ev_err _ _ _ _ _ hov
    have e0 : ((x : Int) == 0) = false := by simp; omega
    clear hP hov ih
    go_enter Tryd.func41, Tryd.ntmps41
    go_wp2_with (first
      | (go_at_call 60; refine (HQ.out _).mono ?_; rintro e w1 ⟨⟨a, b, rfl⟩, hb1⟩; have hr1 := (RB.init s sc sz vs here fm w).below hb1))
    refine wp_loop_rounds 1 ?_
    rw [rounds_succ]
    go_wp2_with fail
    go_ret3
    exact ⟨⟨_, _, rfl⟩, hr1.2⟩
end Go.Proofs.YtonhglhdbpmnhaaDoor
