/- Walks of the document's own answers to layer 1: Prefix, Change. -/
import Derived.Test.YtonhglhdbpmnhaaDoorNj
import Derived.Test.YtonhglhdbpmnhaaDoorMn
namespace Go.Proofs.YtonhglhdbpmnhaaDoor
open Go.RowKit

theorem evT_form (s : ByteArray) (M : Md) (h : M.fm = true) : evT s M = evT s M0 := by
  unfold evT
  rw [ev_form s M M0 h rfl]
theorem evA_none (s : ByteArray) (c : Nat) (sz vs here : Int) (h : argF c sz vs here = none) : evalA s c sz vs here = (0, 1) := by unfold evalA; rw [h]
theorem evT_empty (M : Md) (s : ByteArray) (h : s.size = 0) : evT s M = .err 4 := by
  have hE := evT_eq s M
  have hrn : rn s 0 0 = 0 := by
    have := rn_le (s := s) (deep := 0) (i := 0) (by omega)
    omega
  have hb : bt s 0 = 0 := by simp [bt, h]
  rw [show fuel s = 3 * s.size + 4 + 1 from rfl, ev_sum, show 3 * s.size + 4 = 3 * s.size + 3 + 1 from rfl, ev_opd_base, hrn] at hE
  unfold baseR at hE
  rw [hb, if_neg (by omega), numF_end (by omega)] at hE
  simp only [Option.map_some, fin, Option.some.injEq] at hE
  exact hE.symm
set_option maxRecDepth 100000 in
/-- 24: Prefix. -/
theorem n24 (s : ByteArray) (hs : s.size ≤ 100000) (c : Nat) (sz vs here : Int) (w : World) :
    Calls Tryd.prog 24 #[.string s, .int .u8 c, .agg #[.int .i64 sz, .int .i64 vs, .int .i64 here]] w fun e w' => e = .returned (.tuple #[.int .i64 (prefixA s c sz vs here).1, .int .i64 (prefixA s c sz vs here).2.1, .int .i64 (prefixA s c sz vs here).2.2]) ∧ Below w.heap.size w w' := by
  rcases ha : argF c sz vs here with _ | one
  · have hC : prefixA s c sz vs here = (0, 0, 1) := by unfold prefixA; rw [evA_none _ _ _ _ _ ha]; rfl
    rw [hC]
    have H39 := Lib.hid (n39f c sz vs here ha)
    clear ha hC
    go_enter Tryd.func24, Tryd.ntmps24
    go_wp2_with (go_at_call 39; refine (H39.out _).mono ?_; rintro e w1 ⟨rfl, hb1⟩)
    go_ret3
    exact ⟨rfl, nbox hb1⟩
  have H39 := Lib.hid (n39t c sz vs here ha)
  have hS := (n_ev s hs c sz vs here one true ha (fuel s)).2 0 0 _ (evT_eq s _) (by omega) (by omega)
  have hE := evT_eq s ⟨one, sz, vs, here, true⟩
  rw [evT_form _ _ rfl] at hS hE
  unfold prefixA begF
  rcases hv : evT s M0 with ⟨n, en⟩ | x
  · rw [hv] at hS hE
    have hen := (ev_ok _ _ _ _ _ _ hE (by omega)).2.2
    have h23 := fun w => n23 (s.extract 0 en) (ext_size s 0 en hs) c sz vs here w
    simp only
    generalize hA : evalA (s.extract 0 en) c sz vs here = A at h23 ⊢
    obtain ⟨a1, a2⟩ := A
    have H23 := Lib.hid h23
    have HS := Lib.hid (fun w => spec_ft (hS w))
    clear hA h23 hS hE hv ha
    simp only
    by_cases h0 : a2 = 0
    · subst h0
      simp only [if_true]
      go_enter Tryd.func24, Tryd.ntmps24
      go_wp2_with (first
        | (go_at_call 39; refine (H39.out _).mono ?_; rintro e w1 ⟨rfl, hb1⟩; obtain ⟨k1, k2⟩ := ncell hb1; have hr1 := (BC.init 38 sz vs here w).below hb1)
        | (go_at_call 41; refine (HS.out _).mono ?_; rintro e w2 ⟨⟨n', hn', rfl⟩, hb2⟩; clear hn'; have hr := (hr1.alloc _).below hb2))
      clear k1 k2
      go_region_held3 (fun w' => w'.cell? ⟨w.heap.size, 0, none⟩ = some (.int .i64 sz) ∧ w'.cell? ⟨w.heap.size, 1, none⟩ = some (.int .i64 vs) ∧ w'.cell? ⟨w.heap.size, 2, none⟩ = some (.int .i64 here) ∧ BC 38 sz vs here w w')
        (first | exact BC.keep hr | exact BC.keep hr.drew | exact BC.keep (BC.below hr.drew hbe))
        (first | (go_at_call 23; refine (H23.out _).mono ?_; rintro e we ⟨rfl, hbe⟩))
      have hre := BC.below hr.drew hbe
      go_wp2_with fail
      go_ret3
      exact ⟨rfl, hre.2⟩
    · rw [if_neg h0]
      have e0 : (a2 != 0) = true := by simpa using h0
      go_enter Tryd.func24, Tryd.ntmps24
      go_wp2_with (first
        | (go_at_call 39; refine (H39.out _).mono ?_; rintro e w1 ⟨rfl, hb1⟩; obtain ⟨k1, k2⟩ := ncell hb1; have hr1 := (BC.init 38 sz vs here w).below hb1)
        | (go_at_call 41; refine (HS.out _).mono ?_; rintro e w2 ⟨⟨n', hn', rfl⟩, hb2⟩; clear hn'; have hr := (hr1.alloc _).below hb2))
      clear k1 k2
      go_region_held3 (fun w' => w'.cell? ⟨w.heap.size, 0, none⟩ = some (.int .i64 sz) ∧ w'.cell? ⟨w.heap.size, 1, none⟩ = some (.int .i64 vs) ∧ w'.cell? ⟨w.heap.size, 2, none⟩ = some (.int .i64 here) ∧ BC 38 sz vs here w w')
        (first | exact BC.keep hr | exact BC.keep hr.drew | exact BC.keep (BC.below hr.drew hbe))
        (first | (go_at_call 23; refine (H23.out _).mono ?_; rintro e we ⟨rfl, hbe⟩))
      have hre := BC.below hr.drew hbe
      go_wp2_with fail
      go_ret3
      exact ⟨rfl, hre.2⟩
  · rw [hv] at hS hE
    have hx := ev_err _ _ _ _ _ hE
    have e0 : ((x : Int) != 0) = true := by simp; omega
    have hC : evalA (s.extract 0 0) c sz vs here = (0, 4) := by
      unfold evalA
      rw [ha]
      simp only
      rw [evT_empty _ _ (by simp)]
      rfl
    simp only
    rw [hC]
    have HS := Lib.hid (fun w => spec_e (hS w))
    clear hC hS hE hv ha
    go_enter Tryd.func24, Tryd.ntmps24
    go_wp2_with (first
      | (go_at_call 39; refine (H39.out _).mono ?_; rintro e w1 ⟨rfl, hb1⟩; obtain ⟨k1, k2⟩ := ncell hb1; have hr1 := (BC.init 38 sz vs here w).below hb1)
      | (go_at_call 41; refine (HS.out _).mono ?_; rintro e w2 ⟨⟨a, b, rfl⟩, hb2⟩; have hr := (hr1.alloc _).below hb2))
    go_ret3
    exact ⟨rfl, hr.2⟩

set_option maxRecDepth 100000 in
/-- 26: Change. -/
theorem n26 (s : ByteArray) (hs : s.size ≤ 100000) (c : Nat) (sz vs here : Int) (old : Int) (w : World) :
    Calls Tryd.prog 26 #[.int .i64 old, .string s, .int .u8 c, .agg #[.int .i64 sz, .int .i64 vs, .int .i64 here]] w fun e w' => e = .returned (.tuple #[.int .i64 (changeA old s c sz vs here).1, .int .i64 (changeA old s c sz vs here).2]) ∧ Below w.heap.size w w' := by
  rcases ha : argF c sz vs here with _ | one
  · have hC : changeA old s c sz vs here = (0, 1) := by
      have he : ∀ s, evalA s c sz vs here = (0, 1) := fun s => by unfold evalA; rw [ha]
      unfold changeA
      rw [he, he]
      split
      · rfl
      · split <;> rfl
    rw [hC]
    have H39 := Lib.hid (n39f c sz vs here ha)
    clear ha hC
    go_enter Tryd.func26, Tryd.ntmps26
    go_wp2_with (go_at_call 39; refine (H39.out _).mono ?_; rintro e w1 ⟨rfl, hb1⟩)
    go_ret2
    exact ⟨rfl, nbox hb1⟩
  have H39 := Lib.hid (n39t c sz vs here ha)
  clear ha
  cases hw : within old
  · have hC : changeA old s c sz vs here = (0, 1) := by unfold changeA; rw [hw]; rfl
    rw [hC]
    clear hC
    go_enter Tryd.func26, Tryd.ntmps26
    go_wp2_with (first
      | (go_at_call 39; refine (H39.out _).mono ?_; rintro e w1 ⟨rfl, hb1⟩; have hr := (BC.init 38 sz vs here w).below hb1; obtain ⟨k0, k1, k2, _⟩ := hr.keep)
      | (go_at_call 43; refine (n43 old _).mono ?_; rintro e w' ⟨rfl, rfl⟩))
    go_ret2
    exact ⟨rfl, nbox hb1⟩
  have hwb := within_iff.1 hw
  by_cases h0 : 0 < s.size
  · have hb := idx_i h0
    by_cases e1 : (s[0]'h0).toNat = 43 ∨ (s[0]'h0).toNat = 45
    · have hsign : bt s 0 = 43 ∨ bt s 0 = 45 := by rw [hb]; exact e1
      have hne := empty_f h0
      have hA := evalA_within (s.extract 1 s.size) (ext_size s 1 s.size hs) c sz vs here
      have hE := fun w => n23 (s.extract 1 s.size) (ext_size s 1 s.size hs) c sz vs here w
      have h45 : (if bt s 0 = 45 then -(evalA (s.extract 1 s.size) c sz vs here).1 else (evalA (s.extract 1 s.size) c sz vs here).1) = (if (s[0]'h0).toNat = 45 then -(evalA (s.extract 1 s.size) c sz vs here).1 else (evalA (s.extract 1 s.size) c sz vs here).1) := by rw [hb]
      have hC : changeA old s c sz vs here = chgV old (if (s[0]'h0).toNat = 45 then -(evalA (s.extract 1 s.size) c sz vs here).1 else (evalA (s.extract 1 s.size) c sz vs here).1) (evalA (s.extract 1 s.size) c sz vs here).2 := by
        unfold changeA chgV; rw [hw, if_neg (by decide), if_pos hsign, h45]
      rw [hC]
      clear hC h45 hsign
      generalize evalA (s.extract 1 s.size) c sz vs here = A at hA hE ⊢
      obtain ⟨a1, a2⟩ := A
      have hab := within_iff.1 hA
      have HE := Lib.hid hE
      simp only at hab ⊢
      clear hE hA
      rcases e1 with e1 | e1
      · have hsl : (1 : Int) ≤ (s.size : Int) := by omega
        have f43 : (((s[0]'h0).toNat : Int) != 43) = false := by simp; omega
        have f45 : (((s[0]'h0).toNat : Int) != 45) = true := by simp; omega
        have g45 : (((s[0]'h0).toNat : Int) == 45) = false := by simp; omega
        rw [if_neg (by omega)]
        clear e1 hb
        by_cases ha2 : a2 = 0
        · subst ha2
          cases hwn : within (old + a1)
          · have hv : chgV old (a1) 0 = (0, 5) := by simp [chgV, hwn]
            rw [hv]
            go_enter Tryd.func26, Tryd.ntmps26
            go_wp2_with (first
              | (go_at_call 39; refine (H39.out _).mono ?_; rintro e w1 ⟨rfl, hb1⟩; have hr := (BC.init 38 sz vs here w).below hb1; obtain ⟨k0, k1, k2, _⟩ := hr.keep)
              | (go_at_call 43; refine (n43 old _).mono ?_; rintro e w' ⟨rfl, rfl⟩))
            go_region_held3 (fun w' => w'.cell? ⟨w.heap.size, 0, none⟩ = some (.int .i64 sz) ∧ w'.cell? ⟨w.heap.size, 1, none⟩ = some (.int .i64 vs) ∧ w'.cell? ⟨w.heap.size, 2, none⟩ = some (.int .i64 here) ∧ BC 38 sz vs here w w')
              (first | exact BC.keep hr | exact BC.keep hr.drew | exact BC.keep (BC.below hr.drew hbe))
              (first | (go_at_call 23; refine (HE.out _).mono ?_; rintro e we ⟨rfl, hbe⟩))
            have hre := BC.below hr.drew hbe
            go_wp2_with (first
              | (go_at_call 43; refine (n43 _ _).mono ?_; rintro e w' ⟨rfl, rfl⟩))
            go_ret2
            exact ⟨rfl, hre.2⟩
          · have hv : chgV old (a1) 0 = (old + a1, 0) := by simp [chgV, hwn]
            rw [hv]
            go_enter Tryd.func26, Tryd.ntmps26
            go_wp2_with (first
              | (go_at_call 39; refine (H39.out _).mono ?_; rintro e w1 ⟨rfl, hb1⟩; have hr := (BC.init 38 sz vs here w).below hb1; obtain ⟨k0, k1, k2, _⟩ := hr.keep)
              | (go_at_call 43; refine (n43 old _).mono ?_; rintro e w' ⟨rfl, rfl⟩))
            go_region_held3 (fun w' => w'.cell? ⟨w.heap.size, 0, none⟩ = some (.int .i64 sz) ∧ w'.cell? ⟨w.heap.size, 1, none⟩ = some (.int .i64 vs) ∧ w'.cell? ⟨w.heap.size, 2, none⟩ = some (.int .i64 here) ∧ BC 38 sz vs here w w')
              (first | exact BC.keep hr | exact BC.keep hr.drew | exact BC.keep (BC.below hr.drew hbe))
              (first | (go_at_call 23; refine (HE.out _).mono ?_; rintro e we ⟨rfl, hbe⟩))
            have hre := BC.below hr.drew hbe
            go_wp2_with (first
              | (go_at_call 43; refine (n43 _ _).mono ?_; rintro e w' ⟨rfl, rfl⟩))
            go_ret2
            exact ⟨rfl, hre.2⟩
        · have hv : chgV old (a1) a2 = (0, a2) := by simp [chgV, ha2]
          have e0 : (a2 != 0) = true := by simpa using ha2
          rw [hv]
          go_enter Tryd.func26, Tryd.ntmps26
          go_wp2_with (first
            | (go_at_call 39; refine (H39.out _).mono ?_; rintro e w1 ⟨rfl, hb1⟩; have hr := (BC.init 38 sz vs here w).below hb1; obtain ⟨k0, k1, k2, _⟩ := hr.keep)
            | (go_at_call 43; refine (n43 old _).mono ?_; rintro e w' ⟨rfl, rfl⟩))
          go_region_held3 (fun w' => w'.cell? ⟨w.heap.size, 0, none⟩ = some (.int .i64 sz) ∧ w'.cell? ⟨w.heap.size, 1, none⟩ = some (.int .i64 vs) ∧ w'.cell? ⟨w.heap.size, 2, none⟩ = some (.int .i64 here) ∧ BC 38 sz vs here w w')
            (first | exact BC.keep hr | exact BC.keep hr.drew | exact BC.keep (BC.below hr.drew hbe))
            (first | (go_at_call 23; refine (HE.out _).mono ?_; rintro e we ⟨rfl, hbe⟩))
          have hre := BC.below hr.drew hbe
          go_wp2_with (first
            | (go_at_call 43; refine (n43 _ _).mono ?_; rintro e w' ⟨rfl, rfl⟩))
          go_ret2
          exact ⟨rfl, hre.2⟩
      · have hsl : (1 : Int) ≤ (s.size : Int) := by omega
        have f43 : (((s[0]'h0).toNat : Int) != 43) = true := by simp; omega
        have f45 : (((s[0]'h0).toNat : Int) != 45) = false := by simp; omega
        have g45 : (((s[0]'h0).toNat : Int) == 45) = true := by simp; omega
        rw [if_pos e1]
        clear e1 hb
        by_cases ha2 : a2 = 0
        · subst ha2
          cases hwn : within (old + -a1)
          · have hv : chgV old (-a1) 0 = (0, 5) := by simp [chgV, hwn]
            rw [hv]
            go_enter Tryd.func26, Tryd.ntmps26
            go_wp2_with (first
              | (go_at_call 39; refine (H39.out _).mono ?_; rintro e w1 ⟨rfl, hb1⟩; have hr := (BC.init 38 sz vs here w).below hb1; obtain ⟨k0, k1, k2, _⟩ := hr.keep)
              | (go_at_call 43; refine (n43 old _).mono ?_; rintro e w' ⟨rfl, rfl⟩))
            go_region_held3 (fun w' => w'.cell? ⟨w.heap.size, 0, none⟩ = some (.int .i64 sz) ∧ w'.cell? ⟨w.heap.size, 1, none⟩ = some (.int .i64 vs) ∧ w'.cell? ⟨w.heap.size, 2, none⟩ = some (.int .i64 here) ∧ BC 38 sz vs here w w')
              (first | exact BC.keep hr | exact BC.keep hr.drew | exact BC.keep (BC.below hr.drew hbe))
              (first | (go_at_call 23; refine (HE.out _).mono ?_; rintro e we ⟨rfl, hbe⟩))
            have hre := BC.below hr.drew hbe
            go_wp2_with (first
              | (go_at_call 43; refine (n43 _ _).mono ?_; rintro e w' ⟨rfl, rfl⟩))
            go_ret2
            exact ⟨rfl, hre.2⟩
          · have hv : chgV old (-a1) 0 = (old + -a1, 0) := by simp [chgV, hwn]
            rw [hv]
            go_enter Tryd.func26, Tryd.ntmps26
            go_wp2_with (first
              | (go_at_call 39; refine (H39.out _).mono ?_; rintro e w1 ⟨rfl, hb1⟩; have hr := (BC.init 38 sz vs here w).below hb1; obtain ⟨k0, k1, k2, _⟩ := hr.keep)
              | (go_at_call 43; refine (n43 old _).mono ?_; rintro e w' ⟨rfl, rfl⟩))
            go_region_held3 (fun w' => w'.cell? ⟨w.heap.size, 0, none⟩ = some (.int .i64 sz) ∧ w'.cell? ⟨w.heap.size, 1, none⟩ = some (.int .i64 vs) ∧ w'.cell? ⟨w.heap.size, 2, none⟩ = some (.int .i64 here) ∧ BC 38 sz vs here w w')
              (first | exact BC.keep hr | exact BC.keep hr.drew | exact BC.keep (BC.below hr.drew hbe))
              (first | (go_at_call 23; refine (HE.out _).mono ?_; rintro e we ⟨rfl, hbe⟩))
            have hre := BC.below hr.drew hbe
            go_wp2_with (first
              | (go_at_call 43; refine (n43 _ _).mono ?_; rintro e w' ⟨rfl, rfl⟩))
            go_ret2
            exact ⟨rfl, hre.2⟩
        · have hv : chgV old (-a1) a2 = (0, a2) := by simp [chgV, ha2]
          have e0 : (a2 != 0) = true := by simpa using ha2
          rw [hv]
          go_enter Tryd.func26, Tryd.ntmps26
          go_wp2_with (first
            | (go_at_call 39; refine (H39.out _).mono ?_; rintro e w1 ⟨rfl, hb1⟩; have hr := (BC.init 38 sz vs here w).below hb1; obtain ⟨k0, k1, k2, _⟩ := hr.keep)
            | (go_at_call 43; refine (n43 old _).mono ?_; rintro e w' ⟨rfl, rfl⟩))
          go_region_held3 (fun w' => w'.cell? ⟨w.heap.size, 0, none⟩ = some (.int .i64 sz) ∧ w'.cell? ⟨w.heap.size, 1, none⟩ = some (.int .i64 vs) ∧ w'.cell? ⟨w.heap.size, 2, none⟩ = some (.int .i64 here) ∧ BC 38 sz vs here w w')
            (first | exact BC.keep hr | exact BC.keep hr.drew | exact BC.keep (BC.below hr.drew hbe))
            (first | (go_at_call 23; refine (HE.out _).mono ?_; rintro e we ⟨rfl, hbe⟩))
          have hre := BC.below hr.drew hbe
          go_wp2_with (first
            | (go_at_call 43; refine (n43 _ _).mono ?_; rintro e w' ⟨rfl, rfl⟩))
          go_ret2
          exact ⟨rfl, hre.2⟩
    · have hC : changeA old s c sz vs here = evalA s c sz vs here := by unfold changeA; rw [hw, if_neg (by decide), if_neg (by rw [hb]; exact e1)]
      rw [hC]
      have HE := Lib.hid (fun w => n23 (s) hs c sz vs here w)
      clear hC
      have hne := empty_f h0
      have f43 : (((s[0]'h0).toNat : Int) != 43) = true := by simp; omega
      have f45 : (((s[0]'h0).toNat : Int) != 45) = true := by simp; omega
      clear e1 hb
      go_enter Tryd.func26, Tryd.ntmps26
      go_wp2_with (first
        | (go_at_call 39; refine (H39.out _).mono ?_; rintro e w1 ⟨rfl, hb1⟩; have hr := (BC.init 38 sz vs here w).below hb1; obtain ⟨k0, k1, k2, _⟩ := hr.keep)
        | (go_at_call 43; refine (n43 old _).mono ?_; rintro e w' ⟨rfl, rfl⟩)
        | (go_at_call 23; refine (HE.out _).mono ?_; rintro e we ⟨rfl, hbe⟩))
      go_ret2
      exact ⟨rfl, ntrans hr.2 hbe⟩
  · have h0' : s.size = 0 := by omega
    have hb : bt s 0 = 0 := by simp [bt, h0]
    have hC : changeA old s c sz vs here = evalA s c sz vs here := by unfold changeA; rw [hw, if_neg (by decide), if_neg (by omega)]
    rw [hC]
    have HE := Lib.hid (fun w => n23 (s) hs c sz vs here w)
    clear hC
    have hne := empty_t h0'
    have hnl := empty_l h0'
    clear hb
    go_enter Tryd.func26, Tryd.ntmps26
    go_wp2_with (first
      | (go_at_call 39; refine (H39.out _).mono ?_; rintro e w1 ⟨rfl, hb1⟩; have hr := (BC.init 38 sz vs here w).below hb1; obtain ⟨k0, k1, k2, _⟩ := hr.keep)
      | (go_at_call 43; refine (n43 old _).mono ?_; rintro e w' ⟨rfl, rfl⟩)
      | (go_at_call 23; refine (HE.out _).mono ?_; rintro e we ⟨rfl, hbe⟩))
    go_ret2
    exact ⟨rfl, ntrans hr.2 hbe⟩
end Go.Proofs.YtonhglhdbpmnhaaDoor
