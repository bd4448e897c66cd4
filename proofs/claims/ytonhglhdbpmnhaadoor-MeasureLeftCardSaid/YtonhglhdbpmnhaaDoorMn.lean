/- Walks of package measure: Change. -/
import Derived.Test.YtonhglhdbpmnhaaDoorMm
namespace Go.Proofs.YtonhglhdbpmnhaaDoor
open Go.RowKit

theorem empty_iff' (s : ByteArray) : s.toList.isEmpty = decide (s.size = 0) := by
  rw [Lib.toList_data]
  cases s with
  | mk d => cases d with | mk l => cases l <;> simp [ByteArray.size]
theorem emp_t {s : ByteArray} (h : s.size = 0) : s.toList.isEmpty = true := by rw [empty_iff', h]; rfl
theorem emp_f {s : ByteArray} (h : 0 < s.size) : s.toList.isEmpty = false := by rw [empty_iff']; exact decide_eq_false (by omega)
theorem emp_l {s : ByteArray} (h : s.size = 0) : s.toList = [] := by
  have := emp_t h
  simpa using this
theorem ix0 {s : ByteArray} {y : Nat} (h : y < s.size) : bt s y = (s[y]'h).toNat := by simp [bt, h]
theorem evalA_within (s : ByteArray) (hs : s.size ≤ 100000) (c : Nat) (sz vs here : Int) : within (evalA s c sz vs here).1 = true := by
  unfold evalA
  rcases argF c sz vs here with _ | one
  · show within 0 = true
    decide
  · have hE := evT_eq s ⟨one, sz, vs, here, false⟩
    simp only
    rcases hv : evT s ⟨one, sz, vs, here, false⟩ with ⟨n, to⟩ | x
    · rw [hv] at hE
      have hw := (ev_ok _ _ _ _ _ _ hE (by omega)).1
      unfold whole
      simp only
      split
      · exact hw
      · decide
    · rfl
/-- What a change comes to, given by how much. -/
def chgV (old by' e : Int) : Int × Int := if e = 0 then (if within (old + by') = true then (old + by', 0) else (0, 5)) else (0, e)

set_option maxRecDepth 100000 in
/-- 25: Change. -/
theorem c25 (s : ByteArray) (hs : s.size ≤ 100000) (c : Nat) (sz vs here : Int) (old : Int) (w : World) (hO : OpsAt w) :
    Calls Tryd.prog 25 #[.int .i64 old, .string s, .int .u8 c, .agg #[.int .i64 sz, .int .i64 vs, .int .i64 here]] w fun e w' => e = .returned (.tuple #[.int .i64 (changeA old s c sz vs here).1, .int .i64 (changeA old s c sz vs here).2]) ∧ Below w.heap.size w w' := by
  cases hw : within old
  · have hC : changeA old s c sz vs here = (0, 1) := by unfold changeA; rw [hw]; rfl
    rw [hC]
    clear hC
    go_enter Tryd.func25, Tryd.ntmps25
    go_wp2_with (first
      | (go_at_call 42; refine (c42 old _).mono ?_; rintro e w' ⟨rfl, rfl⟩))
    go_ret2
    exact ⟨rfl, (Below.refl _ _).alloc (Nat.le_refl _) _⟩
  have hwb := within_iff.1 hw
  by_cases h0 : 0 < s.size
  · have hb := ix0 h0
    by_cases e1 : (s[0]'h0).toNat = 43 ∨ (s[0]'h0).toNat = 45
    · have hsign : bt s 0 = 43 ∨ bt s 0 = 45 := by rw [hb]; exact e1
      have hne := emp_f h0
      have hA := evalA_within (s.extract 1 s.size) (ext_size s 1 s.size hs) c sz vs here
      have hE := fun w (hO : OpsAt w) => c18 (s.extract 1 s.size) (ext_size s 1 s.size hs) c sz vs here w hO
      have h45 : (if bt s 0 = 45 then -(evalA (s.extract 1 s.size) c sz vs here).1 else (evalA (s.extract 1 s.size) c sz vs here).1) = (if (s[0]'h0).toNat = 45 then -(evalA (s.extract 1 s.size) c sz vs here).1 else (evalA (s.extract 1 s.size) c sz vs here).1) := by rw [hb]
      have hC : changeA old s c sz vs here = chgV old (if (s[0]'h0).toNat = 45 then -(evalA (s.extract 1 s.size) c sz vs here).1 else (evalA (s.extract 1 s.size) c sz vs here).1) (evalA (s.extract 1 s.size) c sz vs here).2 := by
        unfold changeA chgV; rw [hw, if_neg (by decide), if_pos hsign, h45]
      rw [hC]
      clear hC h45 hsign
      generalize evalA (s.extract 1 s.size) c sz vs here = A at hA hE ⊢
      obtain ⟨a1, a2⟩ := A
      have hab := within_iff.1 hA
      have HE := Lib.hid hE
      simp only at hab ⊢
      clear hE hA
      rcases e1 with e1 | e1
      · have hsl : (1 : Int) ≤ (s.size : Int) := by omega
        have f43 : (((s[0]'h0).toNat : Int) != 43) = false := by simp; omega
        have f45 : (((s[0]'h0).toNat : Int) != 45) = true := by simp; omega
        have g45 : (((s[0]'h0).toNat : Int) == 45) = false := by simp; omega
        rw [if_neg (by omega)]
        clear e1 hb
        by_cases ha2 : a2 = 0
        · subst ha2
          cases hwn : within (old + a1)
          · have hv : chgV old (a1) 0 = (0, 5) := by simp [chgV, hwn]
            have hr := BC.init 23 sz vs here w
            rw [hv]
            go_enter Tryd.func25, Tryd.ntmps25
            go_wp2_with (first
              | (go_at_call 42; refine (c42 old _).mono ?_; rintro e w' ⟨rfl, rfl⟩))
            go_region_held3 (fun w' => w'.cell? ⟨w.heap.size, 0, none⟩ = some (.int .i64 sz) ∧ w'.cell? ⟨w.heap.size, 1, none⟩ = some (.int .i64 vs) ∧ w'.cell? ⟨w.heap.size, 2, none⟩ = some (.int .i64 here) ∧ BC 23 sz vs here w w')
              (first | exact BC.keep hr | exact BC.keep hr.drew | exact BC.keep (BC.below hr.drew hbe))
              (first | (go_at_call 18; refine (HE.out _ (((hO.below hr.2).grown (g := 1) (by omega) (only_of_below (Below.refl _ _).drew _)))).mono ?_; rintro e we ⟨rfl, hbe⟩))
            have hre := BC.below hr.drew hbe
            go_wp2_with (first
              | (go_at_call 42; refine (c42 _ _).mono ?_; rintro e w' ⟨rfl, rfl⟩))
            go_ret2
            exact ⟨rfl, hre.2⟩
          · have hv : chgV old (a1) 0 = (old + a1, 0) := by simp [chgV, hwn]
            have hr := BC.init 23 sz vs here w
            rw [hv]
            go_enter Tryd.func25, Tryd.ntmps25
            go_wp2_with (first
              | (go_at_call 42; refine (c42 old _).mono ?_; rintro e w' ⟨rfl, rfl⟩))
            go_region_held3 (fun w' => w'.cell? ⟨w.heap.size, 0, none⟩ = some (.int .i64 sz) ∧ w'.cell? ⟨w.heap.size, 1, none⟩ = some (.int .i64 vs) ∧ w'.cell? ⟨w.heap.size, 2, none⟩ = some (.int .i64 here) ∧ BC 23 sz vs here w w')
              (first | exact BC.keep hr | exact BC.keep hr.drew | exact BC.keep (BC.below hr.drew hbe))
              (first | (go_at_call 18; refine (HE.out _ (((hO.below hr.2).grown (g := 1) (by omega) (only_of_below (Below.refl _ _).drew _)))).mono ?_; rintro e we ⟨rfl, hbe⟩))
            have hre := BC.below hr.drew hbe
            go_wp2_with (first
              | (go_at_call 42; refine (c42 _ _).mono ?_; rintro e w' ⟨rfl, rfl⟩))
            go_ret2
            exact ⟨rfl, hre.2⟩
        · have hv : chgV old (a1) a2 = (0, a2) := by simp [chgV, ha2]
          have e0 : (a2 != 0) = true := by simpa using ha2
          have hr := BC.init 23 sz vs here w
          rw [hv]
          go_enter Tryd.func25, Tryd.ntmps25
          go_wp2_with (first
            | (go_at_call 42; refine (c42 old _).mono ?_; rintro e w' ⟨rfl, rfl⟩))
          go_region_held3 (fun w' => w'.cell? ⟨w.heap.size, 0, none⟩ = some (.int .i64 sz) ∧ w'.cell? ⟨w.heap.size, 1, none⟩ = some (.int .i64 vs) ∧ w'.cell? ⟨w.heap.size, 2, none⟩ = some (.int .i64 here) ∧ BC 23 sz vs here w w')
            (first | exact BC.keep hr | exact BC.keep hr.drew | exact BC.keep (BC.below hr.drew hbe))
            (first | (go_at_call 18; refine (HE.out _ (((hO.below hr.2).grown (g := 1) (by omega) (only_of_below (Below.refl _ _).drew _)))).mono ?_; rintro e we ⟨rfl, hbe⟩))
          have hre := BC.below hr.drew hbe
          go_wp2_with (first
            | (go_at_call 42; refine (c42 _ _).mono ?_; rintro e w' ⟨rfl, rfl⟩))
          go_ret2
          exact ⟨rfl, hre.2⟩
      · have hsl : (1 : Int) ≤ (s.size : Int) := by omega
        have f43 : (((s[0]'h0).toNat : Int) != 43) = true := by simp; omega
        have f45 : (((s[0]'h0).toNat : Int) != 45) = false := by simp; omega
        have g45 : (((s[0]'h0).toNat : Int) == 45) = true := by simp; omega
        rw [if_pos e1]
        clear e1 hb
        by_cases ha2 : a2 = 0
        · subst ha2
          cases hwn : within (old + -a1)
          · have hv : chgV old (-a1) 0 = (0, 5) := by simp [chgV, hwn]
            have hr := BC.init 23 sz vs here w
            rw [hv]
            go_enter Tryd.func25, Tryd.ntmps25
            go_wp2_with (first
              | (go_at_call 42; refine (c42 old _).mono ?_; rintro e w' ⟨rfl, rfl⟩))
            go_region_held3 (fun w' => w'.cell? ⟨w.heap.size, 0, none⟩ = some (.int .i64 sz) ∧ w'.cell? ⟨w.heap.size, 1, none⟩ = some (.int .i64 vs) ∧ w'.cell? ⟨w.heap.size, 2, none⟩ = some (.int .i64 here) ∧ BC 23 sz vs here w w')
              (first | exact BC.keep hr | exact BC.keep hr.drew | exact BC.keep (BC.below hr.drew hbe))
              (first | (go_at_call 18; refine (HE.out _ (((hO.below hr.2).grown (g := 1) (by omega) (only_of_below (Below.refl _ _).drew _)))).mono ?_; rintro e we ⟨rfl, hbe⟩))
            have hre := BC.below hr.drew hbe
            go_wp2_with (first
              | (go_at_call 42; refine (c42 _ _).mono ?_; rintro e w' ⟨rfl, rfl⟩))
            go_ret2
            exact ⟨rfl, hre.2⟩
          · have hv : chgV old (-a1) 0 = (old + -a1, 0) := by simp [chgV, hwn]
            have hr := BC.init 23 sz vs here w
            rw [hv]
            go_enter Tryd.func25, Tryd.ntmps25
            go_wp2_with (first
              | (go_at_call 42; refine (c42 old _).mono ?_; rintro e w' ⟨rfl, rfl⟩))
            go_region_held3 (fun w' => w'.cell? ⟨w.heap.size, 0, none⟩ = some (.int .i64 sz) ∧ w'.cell? ⟨w.heap.size, 1, none⟩ = some (.int .i64 vs) ∧ w'.cell? ⟨w.heap.size, 2, none⟩ = some (.int .i64 here) ∧ BC 23 sz vs here w w')
              (first | exact BC.keep hr | exact BC.keep hr.drew | exact BC.keep (BC.below hr.drew hbe))
              (first | (go_at_call 18; refine (HE.out _ (((hO.below hr.2).grown (g := 1) (by omega) (only_of_below (Below.refl _ _).drew _)))).mono ?_; rintro e we ⟨rfl, hbe⟩))
            have hre := BC.below hr.drew hbe
            go_wp2_with (first
              | (go_at_call 42; refine (c42 _ _).mono ?_; rintro e w' ⟨rfl, rfl⟩))
            go_ret2
            exact ⟨rfl, hre.2⟩
        · have hv : chgV old (-a1) a2 = (0, a2) := by simp [chgV, ha2]
          have e0 : (a2 != 0) = true := by simpa using ha2
          have hr := BC.init 23 sz vs here w
          rw [hv]
          go_enter Tryd.func25, Tryd.ntmps25
          go_wp2_with (first
            | (go_at_call 42; refine (c42 old _).mono ?_; rintro e w' ⟨rfl, rfl⟩))
          go_region_held3 (fun w' => w'.cell? ⟨w.heap.size, 0, none⟩ = some (.int .i64 sz) ∧ w'.cell? ⟨w.heap.size, 1, none⟩ = some (.int .i64 vs) ∧ w'.cell? ⟨w.heap.size, 2, none⟩ = some (.int .i64 here) ∧ BC 23 sz vs here w w')
            (first | exact BC.keep hr | exact BC.keep hr.drew | exact BC.keep (BC.below hr.drew hbe))
            (first | (go_at_call 18; refine (HE.out _ (((hO.below hr.2).grown (g := 1) (by omega) (only_of_below (Below.refl _ _).drew _)))).mono ?_; rintro e we ⟨rfl, hbe⟩))
          have hre := BC.below hr.drew hbe
          go_wp2_with (first
            | (go_at_call 42; refine (c42 _ _).mono ?_; rintro e w' ⟨rfl, rfl⟩))
          go_ret2
          exact ⟨rfl, hre.2⟩
    · have hC : changeA old s c sz vs here = evalA s c sz vs here := by unfold changeA; rw [hw, if_neg (by decide), if_neg (by rw [hb]; exact e1)]
      rw [hC]
      have HE := Lib.hid (fun w (hO : OpsAt w) => c18 (s) hs c sz vs here w hO)
      clear hC
      have hne := emp_f h0
      have f43 : (((s[0]'h0).toNat : Int) != 43) = true := by simp; omega
      have f45 : (((s[0]'h0).toNat : Int) != 45) = true := by simp; omega
      clear e1 hb
      go_enter Tryd.func25, Tryd.ntmps25
      go_wp2_with (first
        | (go_at_call 42; refine (c42 old _).mono ?_; rintro e w' ⟨rfl, rfl⟩)
        | (go_at_call 18; refine (HE.out _ (hO.alloc _)).mono ?_; rintro e we ⟨rfl, hbe⟩))
      go_ret2
      exact ⟨rfl, below_box hbe⟩
  · have h0' : s.size = 0 := by omega
    have hb : bt s 0 = 0 := by simp [bt, h0]
    have hC : changeA old s c sz vs here = evalA s c sz vs here := by unfold changeA; rw [hw, if_neg (by decide), if_neg (by omega)]
    rw [hC]
    have HE := Lib.hid (fun w (hO : OpsAt w) => c18 (s) hs c sz vs here w hO)
    clear hC
    have hne := emp_t h0'
    have hnl := emp_l h0'
    clear hb
    go_enter Tryd.func25, Tryd.ntmps25
    go_wp2_with (first
      | (go_at_call 42; refine (c42 old _).mono ?_; rintro e w' ⟨rfl, rfl⟩)
      | (go_at_call 18; refine (HE.out _ (hO.alloc _)).mono ?_; rintro e we ⟨rfl, hbe⟩))
    go_ret2
    exact ⟨rfl, below_box hbe⟩
end Go.Proofs.YtonhglhdbpmnhaaDoor
