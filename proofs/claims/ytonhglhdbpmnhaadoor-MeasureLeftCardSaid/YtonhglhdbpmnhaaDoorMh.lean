/- Walks of package measure's reader: expressions; all of it by the fuel of the plain reckoning. -/
import Derived.Test.YtonhglhdbpmnhaaDoorMg
namespace Go.Proofs.YtonhglhdbpmnhaaDoor
open Go.RowKit

theorem opS_empty : (opS 13).toList.isEmpty = true := by kernel_rfl
theorem opS_some : ∀ {j : Nat}, j < 13 → (opS j).toList.isEmpty = false
  | 0, _ => by kernel_rfl
  | 1, _ => by kernel_rfl
  | 2, _ => by kernel_rfl
  | 3, _ => by kernel_rfl
  | 4, _ => by kernel_rfl
  | 5, _ => by kernel_rfl
  | 6, _ => by kernel_rfl
  | 7, _ => by kernel_rfl
  | 8, _ => by kernel_rfl
  | 9, _ => by kernel_rfl
  | 10, _ => by kernel_rfl
  | 11, _ => by kernel_rfl
  | 12, _ => by kernel_rfl
  | k + 13, h => absurd h (by omega)
def R36 (g : Nat) (s : ByteArray) (M : Md) (f deep : Nat) (r : Res) (w : World) (v3 v4 : Value) (wr : World) : Prop :=
  ∃ (f' : Nat) (n : Int) (at' : Nat), f' ≤ f ∧ ev s M (f' + 1) (.loop n at' deep) = some r ∧ within n = true ∧ at' ≤ s.size ∧ v3 = .int .i64 n ∧ v4 = .string (opS (opIx s (skp s deep at'))) ∧ Moved w g s M (skp s deep at' + (opS (opIx s (skp s deep at'))).size) deep wr
/-- 36: expression, given what operands come to. -/
theorem c36 (g : Nat) (hg : g ≠ 0) (s : ByteArray) (hs : s.size ≤ 100000) (M : Md) (_hM : M.okay) (f : Nat) (i deep : Nat) (r : Res) (hi : i ≤ s.size) (hd : deep ≤ 20) (hfd : ¬ (M.fm = true ∧ deep = 0)) (hev : ev s M (f + 1) (.sum i deep) = some r)
    (ih : ∀ f' i' r', f' ≤ f → ev s M f' (.opd i' deep) = some r' → i' ≤ s.size → Opds g s M i' deep r') : Sums g s M i deep r := by
  intro w h hO
  simp only [ev] at hev
  rcases hov : ev s M f (.opd i deep) with _ | r1
  · rw [hov] at hev; cases hev
  rw [hov] at hev
  have hP := ih f i r1 (Nat.le_refl _) hov hi w h hO
  rcases r1 with ⟨n, to⟩ | x
  · simp only at hev
    have hok := ev_ok s M f _ n to hov hi
    rcases f with _ | f
    · cases hov
    obtain ⟨hnw, hito, htos⟩ := hok
    have HP := Lib.hid hP
    have HEV := Lib.hid hev
    have HIH := Lib.hid ih
    clear hP hev ih hov
    go_enter Tryd.func36, Tryd.ntmps36
    go_wp2_with (first
      | (go_at_call 52; refine HP.out.mono ?_; rintro e w1 ⟨rfl, hm1⟩)
      | (go_at_call 53; refine (c53 g s M to deep w1 hm1.1 (hO.moved hg hm1) hg hs htos hd).mono ?_; rintro e w2 ⟨rfl, hm2⟩))
    have hm := hm1.trans hm2
    clear hm1 hm2
    go_loopw [3, 4] (fun v3 v4 wr => R36 g s M f deep r w v3 v4 wr) (fun _ _ wr => s.size - posOf wr g)
    case atStart => exact ⟨f, n, to, Nat.le_refl _, HEV.out, hnw, htos, rfl, rfl, hm⟩
    case round =>
      obtain ⟨f', m, at', hf', hev', hmw, hat, rfl, rfl, hmr⟩ := hrel
      clear hm
      have hop := opIx_le s (skp s deep at')
      simp only [ev] at hev'
      by_cases h13 : opIx s (skp s deep at') = 13
      · rw [if_pos h13] at hev'
        cases hev'
        rw [h13] at hmr ⊢
        have he := opS_empty
        go_wp2_with fail
        go_ret
        exact ⟨rfl, hmr⟩
      · rw [if_neg h13] at hev'
        obtain ⟨o1, o2⟩ := op_end h13
        have hj : opIx s (skp s deep at') < 13 := by omega
        have hne := opS_some hj
        generalize hjj : opIx s (skp s deep at') = j at hev' hmr o1 o2 hj hne ⊢
        have hw7 := hmr.1.c7
        have hw1 := hmr.1.c1
        rcases hov : ev s M f' (.opd (skp s deep at' + (opS j).size) deep) with _ | r1
        · rw [hov] at hev'; cases hev'
        rw [hov] at hev'
        have hOr := hO.moved hg hmr
        have hP := HIH.out f' _ r1 (by omega) hov o1 wr hmr.1 hOr
        have HJ := Lib.hid hjj
        clear hjj h13 hop
        rcases r1 with ⟨b, t⟩ | x
        · simp only at hev'
          have hok := ev_ok s M f' _ b t hov o1
          obtain ⟨hbw, hpt, hts⟩ := hok
          rcases hrk : rk M.fm j m b with v | x
          · rw [hrk] at hev'
            have HRK := Lib.hid hrk
            have HP := Lib.hid hP
            have HEV' := Lib.hid hev'
            clear hP hev' hov hrk
            rcases f' with _ | f'
            · cases HEV'.out
            go_wp2_with (first
              | (go_at_call 52; refine HP.out.mono ?_; rintro e w3 ⟨rfl, hm3⟩; have g7 := hm3.1.c7)
              | (go_at_call 54; refine (c54v g M j hj m b v w3 g7 hmw hbw HRK.out).mono ?_; rintro e w' ⟨rfl, rfl⟩)
              | (go_at_call 53; refine (c53 g s M t deep w3 hm3.1 (hOr.moved hg hm3) hg hs hts hd).mono ?_; rintro e w4 ⟨rfl, hm4⟩))
            have hmn := (hmr.trans hm3).trans hm4
            go_roundw
            case rel => exact ⟨f', v, t, by omega, HEV'.out, rk_within HRK.out, hts, rfl, rfl, hmn⟩
            case measure =>
              rw [posOf_ _ _ _ hw1, posOf_ _ g _ hmn.1.c1]
              have := skp_ge s deep t
              omega
          · rw [hrk] at hev'
            cases hev'
            have HRK := Lib.hid hrk
            have HP := Lib.hid hP
            clear hP hov hrk
            go_wp2_with (first
              | (go_at_call 52; refine HP.out.mono ?_; rintro e w3 ⟨rfl, hm3⟩; have g7 := hm3.1.c7)
              | (go_at_call 54; refine (c54b g M j hj m b x w3 g7 hmw hbw HRK.out).mono ?_; rintro e w' ⟨rfl, rfl⟩))
            exact ⟨rfl, rfl, (hmr.trans hm3).2⟩
        · simp only at hev'
          rw [if_neg hfd] at hev'
          cases hev'
          have HP := Lib.hid hP
          clear hP hov
          go_wp2_with (first
            | (go_at_call 52; refine HP.out.mono ?_; rintro e w3 ⟨rfl, hm3⟩))
          exact ⟨rfl, rfl, only_trans hmr.2 hm3⟩
  · cases hev
    have HP := Lib.hid hP
    clear hP hov ih
    go_enter Tryd.func36, Tryd.ntmps36
    go_wp2_with (first
      | (go_at_call 52; refine HP.out.mono ?_; rintro e w1 ⟨rfl, hm1⟩))
    exact ⟨rfl, rfl, hm1⟩

/-- Operands and expressions, by the fuel. -/
theorem c_ev (g : Nat) (hg : g ≠ 0) (s : ByteArray) (hs : s.size ≤ 100000) (M : Md) (hM : M.okay) : ∀ (f : Nat),
    (∀ i deep r, ev s M f (.opd i deep) = some r → i ≤ s.size → deep ≤ 20 → Opds g s M i deep r) ∧
    (∀ i deep r, ev s M f (.sum i deep) = some r → i ≤ s.size → deep ≤ 20 → ¬ (M.fm = true ∧ deep = 0) → Sums g s M i deep r) := by
  intro f
  induction f using Nat.strongRecOn with
  | ind f ih =>
    rcases f with _ | f
    · exact ⟨fun i deep r h => (by cases h), fun i deep r h => (by cases h)⟩
    · refine ⟨fun i deep r h hi hd => ?_, fun i deep r h hi hd hfd => ?_⟩
      · exact c52 g hg s hs M hM f i deep r hi hd h (fun i' r' h' hi' hd' => (ih f (by omega)).2 i' (deep + 1) r' h' hi' (by omega) (by omega))
      · exact c36 g hg s hs M hM f i deep r hi hd hfd h (fun f' i' r' hf' h' hi' => (ih f' (by omega)).1 i' deep r' h' hi' hd)
end Go.Proofs.YtonhglhdbpmnhaaDoor
