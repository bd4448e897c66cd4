/- Walks of the document's own answers to layer 1: Number, Prefix, Change. -/
import Derived.Test.YtonhglhdbpmnhaaDoorNi
namespace Go.Proofs.YtonhglhdbpmnhaaDoor
open Go.RowKit

theorem empty_iff (s : ByteArray) : s.toList.isEmpty = decide (s.size = 0) := by
  rw [Lib.toList_data]
  cases s with
  | mk d => cases d with | mk l => cases l <;> simp [ByteArray.size]
theorem empty_t {s : ByteArray} (h : s.size = 0) : s.toList.isEmpty = true := by rw [empty_iff, h]; rfl
theorem empty_f {s : ByteArray} (h : 0 < s.size) : s.toList.isEmpty = false := by rw [empty_iff]; exact decide_eq_false (by omega)
theorem empty_l {s : ByteArray} (h : s.size = 0) : s.toList = [] := by
  have := empty_t h
  simpa using this
/-- The three outcomes of the document's number. -/
theorem nAns_cases (s : ByteArray) (M : Md) (hfm : M.fm = false) (i : Nat) :
    (∃ (b : Int) (x : Nat), x ≠ 0 ∧ nAns s M i = (0, b, (x : Int)) ∧ numF s M i = .err x) ∨ (∃ (n : Int) (en : Nat), nAns s M i = (n, (en : Int), 0) ∧ numF s M i = .ok n en) := by
  unfold nAns numF bdd
  by_cases hz : dCount s i = 0 ∧ nPart s i = false
  · rw [if_pos hz, if_pos hz]
    exact .inl ⟨0, 4, by omega, rfl, rfl⟩
  · rw [if_neg hz, if_neg hz, hfm]
    by_cases hw : within (nVal s M i) = true
    · rw [if_pos hw]
      exact .inr ⟨_, _, rfl, by simp [hw]⟩
    · rw [if_neg hw]
      exact .inl ⟨_, 5, by omega, rfl, by simp [hw]⟩
/-- 22: Number. -/
theorem n22 (s : ByteArray) (hs : s.size ≤ 100000) (c : Nat) (sz vs here : Int) (w : World) :
    Calls Tryd.prog 22 #[.string s, .int .u8 c, .agg #[.int .i64 sz, .int .i64 vs, .int .i64 here]] w fun e w' => e = .returned (.tuple #[.int .i64 (numA s c sz vs here).1, .int .i64 (numA s c sz vs here).2]) ∧ Below w.heap.size w w' := by
  unfold numA
  rcases ha : argF c sz vs here with _ | one
  · have H39 := Lib.hid (n39f c sz vs here ha)
    clear ha
    simp only
    go_enter Tryd.func22, Tryd.ntmps22
    go_wp2_with (go_at_call 39; refine (H39.out _).mono ?_; rintro e w1 ⟨rfl, hb1⟩)
    go_ret2
    exact ⟨rfl, nbox hb1⟩
  have H39 := Lib.hid (n39t c sz vs here ha)
  have hM := argF_okay ha false
  simp only
  by_cases h0 : 0 < s.size
  · have hb := idx_i h0
    by_cases e1 : (s[0]'h0).toNat = 43
    · have h40 := fun w => n40 s 1 c sz vs here one w hs (by omega) ha
      rcases nAns_cases s ⟨one, sz, vs, here, false⟩ rfl 1 with ⟨b, x, hx, hA, hN⟩ | ⟨n, en, hA, hN⟩
      · have hW : whole s (sNum s ⟨one, sz, vs, here, false⟩) = (0, (x : Int)) := by unfold sNum; rw [hb, if_pos e1, hN]; rfl
        rw [hW]
        rw [hA] at h40
        have H40 := Lib.hid h40
        have e0 : ((x : Int) != 0) = true := by simp; omega
        clear h40 hA hN hW ha hM
        have hne := empty_f h0
        have e43 : (((s[0]'h0).toNat : Int) == 43) = true := by simp; omega
        have e45 : (((s[0]'h0).toNat : Int) == 45) = false := by simp; omega
        go_enter Tryd.func22, Tryd.ntmps22
        go_wp2_with (first
          | (go_at_call 39; refine (H39.out _).mono ?_; rintro e w1 ⟨rfl, hb1⟩; obtain ⟨k1, k2⟩ := ncell hb1)
          | (go_at_call 40; refine (H40.out _).mono ?_; rintro e w2 ⟨rfl, hb2⟩))
        go_ret2
        exact ⟨rfl, ntrans (nbox hb1) hb2⟩
      · have hok := numF_ok hN (by omega)
        obtain ⟨hnw, _, hen⟩ := hok
        have hnb := within_iff.1 hnw
        rw [hA] at h40
        have H40 := Lib.hid h40
        by_cases h : en = s.size
        · have hW : whole s (sNum s ⟨one, sz, vs, here, false⟩) = (n, 0) := by unfold sNum; rw [hb, if_pos e1, hN]; simp [whole, h]
          rw [hW]
          clear h40 hA hN hW ha hM
          subst h
          have hne := empty_f h0
          have e43 : (((s[0]'h0).toNat : Int) == 43) = true := by simp; omega
          have e45 : (((s[0]'h0).toNat : Int) == 45) = false := by simp; omega
          go_enter Tryd.func22, Tryd.ntmps22
          go_wp2_with (first
          | (go_at_call 39; refine (H39.out _).mono ?_; rintro e w1 ⟨rfl, hb1⟩; obtain ⟨k1, k2⟩ := ncell hb1)
          | (go_at_call 40; refine (H40.out _).mono ?_; rintro e w2 ⟨rfl, hb2⟩))
          go_ret2
          exact ⟨rfl, ntrans (nbox hb1) hb2⟩
        · have hW : whole s (sNum s ⟨one, sz, vs, here, false⟩) = (0, 4) := by unfold sNum; rw [hb, if_pos e1, hN]; simp [whole, h]
          rw [hW]
          have hlt : en < s.size := by omega
          clear h40 hA hN hW ha hM
          have hne := empty_f h0
          have e43 : (((s[0]'h0).toNat : Int) == 43) = true := by simp; omega
          have e45 : (((s[0]'h0).toNat : Int) == 45) = false := by simp; omega
          go_enter Tryd.func22, Tryd.ntmps22
          go_wp2_with (first
          | (go_at_call 39; refine (H39.out _).mono ?_; rintro e w1 ⟨rfl, hb1⟩; obtain ⟨k1, k2⟩ := ncell hb1)
          | (go_at_call 40; refine (H40.out _).mono ?_; rintro e w2 ⟨rfl, hb2⟩))
          go_ret2
          exact ⟨rfl, ntrans (nbox hb1) hb2⟩
    by_cases e2 : (s[0]'h0).toNat = 45
    · have h40 := fun w => n40 s 1 c sz vs here one w hs (by omega) ha
      rcases nAns_cases s ⟨one, sz, vs, here, false⟩ rfl 1 with ⟨b, x, hx, hA, hN⟩ | ⟨n, en, hA, hN⟩
      · have hW : whole s (sNum s ⟨one, sz, vs, here, false⟩) = (0, (x : Int)) := by unfold sNum; rw [hb, if_neg e1, if_pos e2, hN]; rfl
        rw [hW]
        rw [hA] at h40
        have H40 := Lib.hid h40
        have e0 : ((x : Int) != 0) = true := by simp; omega
        clear h40 hA hN hW ha hM
        have hne := empty_f h0
        have e43 : (((s[0]'h0).toNat : Int) == 43) = false := by simp; omega
        have e45 : (((s[0]'h0).toNat : Int) == 45) = true := by simp; omega
        go_enter Tryd.func22, Tryd.ntmps22
        go_wp2_with (first
          | (go_at_call 39; refine (H39.out _).mono ?_; rintro e w1 ⟨rfl, hb1⟩; obtain ⟨k1, k2⟩ := ncell hb1)
          | (go_at_call 40; refine (H40.out _).mono ?_; rintro e w2 ⟨rfl, hb2⟩))
        go_ret2
        exact ⟨rfl, ntrans (nbox hb1) hb2⟩
      · have hok := numF_ok hN (by omega)
        obtain ⟨hnw, _, hen⟩ := hok
        have hnb := within_iff.1 hnw
        rw [hA] at h40
        have H40 := Lib.hid h40
        by_cases h : en = s.size
        · have hW : whole s (sNum s ⟨one, sz, vs, here, false⟩) = (-n, 0) := by unfold sNum; rw [hb, if_neg e1, if_pos e2, hN]; simp [whole, h]
          rw [hW]
          clear h40 hA hN hW ha hM
          subst h
          have hne := empty_f h0
          have e43 : (((s[0]'h0).toNat : Int) == 43) = false := by simp; omega
          have e45 : (((s[0]'h0).toNat : Int) == 45) = true := by simp; omega
          go_enter Tryd.func22, Tryd.ntmps22
          go_wp2_with (first
          | (go_at_call 39; refine (H39.out _).mono ?_; rintro e w1 ⟨rfl, hb1⟩; obtain ⟨k1, k2⟩ := ncell hb1)
          | (go_at_call 40; refine (H40.out _).mono ?_; rintro e w2 ⟨rfl, hb2⟩))
          go_ret2
          exact ⟨rfl, ntrans (nbox hb1) hb2⟩
        · have hW : whole s (sNum s ⟨one, sz, vs, here, false⟩) = (0, 4) := by unfold sNum; rw [hb, if_neg e1, if_pos e2, hN]; simp [whole, h]
          rw [hW]
          have hlt : en < s.size := by omega
          clear h40 hA hN hW ha hM
          have hne := empty_f h0
          have e43 : (((s[0]'h0).toNat : Int) == 43) = false := by simp; omega
          have e45 : (((s[0]'h0).toNat : Int) == 45) = true := by simp; omega
          go_enter Tryd.func22, Tryd.ntmps22
          go_wp2_with (first
          | (go_at_call 39; refine (H39.out _).mono ?_; rintro e w1 ⟨rfl, hb1⟩; obtain ⟨k1, k2⟩ := ncell hb1)
          | (go_at_call 40; refine (H40.out _).mono ?_; rintro e w2 ⟨rfl, hb2⟩))
          go_ret2
          exact ⟨rfl, ntrans (nbox hb1) hb2⟩
    · have h40 := fun w => n40 s 0 c sz vs here one w hs (by omega) ha
      rcases nAns_cases s ⟨one, sz, vs, here, false⟩ rfl 0 with ⟨b, x, hx, hA, hN⟩ | ⟨n, en, hA, hN⟩
      · have hW : whole s (sNum s ⟨one, sz, vs, here, false⟩) = (0, (x : Int)) := by unfold sNum; rw [hb, if_neg e1, if_neg e2, hN]; rfl
        rw [hW]
        rw [hA] at h40
        have H40 := Lib.hid h40
        have e0 : ((x : Int) != 0) = true := by simp; omega
        clear h40 hA hN hW ha hM
        have hne := empty_f h0
        have e43 : (((s[0]'h0).toNat : Int) == 43) = false := by simp; omega
        have e45 : (((s[0]'h0).toNat : Int) == 45) = false := by simp; omega
        go_enter Tryd.func22, Tryd.ntmps22
        go_wp2_with (first
          | (go_at_call 39; refine (H39.out _).mono ?_; rintro e w1 ⟨rfl, hb1⟩; obtain ⟨k1, k2⟩ := ncell hb1)
          | (go_at_call 40; refine (H40.out _).mono ?_; rintro e w2 ⟨rfl, hb2⟩))
        go_ret2
        exact ⟨rfl, ntrans (nbox hb1) hb2⟩
      · have hok := numF_ok hN (by omega)
        obtain ⟨hnw, _, hen⟩ := hok
        have hnb := within_iff.1 hnw
        rw [hA] at h40
        have H40 := Lib.hid h40
        by_cases h : en = s.size
        · have hW : whole s (sNum s ⟨one, sz, vs, here, false⟩) = (n, 0) := by unfold sNum; rw [hb, if_neg e1, if_neg e2, hN]; simp [whole, h]
          rw [hW]
          clear h40 hA hN hW ha hM
          subst h
          have hne := empty_f h0
          have e43 : (((s[0]'h0).toNat : Int) == 43) = false := by simp; omega
          have e45 : (((s[0]'h0).toNat : Int) == 45) = false := by simp; omega
          go_enter Tryd.func22, Tryd.ntmps22
          go_wp2_with (first
          | (go_at_call 39; refine (H39.out _).mono ?_; rintro e w1 ⟨rfl, hb1⟩; obtain ⟨k1, k2⟩ := ncell hb1)
          | (go_at_call 40; refine (H40.out _).mono ?_; rintro e w2 ⟨rfl, hb2⟩))
          go_ret2
          exact ⟨rfl, ntrans (nbox hb1) hb2⟩
        · have hW : whole s (sNum s ⟨one, sz, vs, here, false⟩) = (0, 4) := by unfold sNum; rw [hb, if_neg e1, if_neg e2, hN]; simp [whole, h]
          rw [hW]
          have hlt : en < s.size := by omega
          clear h40 hA hN hW ha hM
          have hne := empty_f h0
          have e43 : (((s[0]'h0).toNat : Int) == 43) = false := by simp; omega
          have e45 : (((s[0]'h0).toNat : Int) == 45) = false := by simp; omega
          go_enter Tryd.func22, Tryd.ntmps22
          go_wp2_with (first
          | (go_at_call 39; refine (H39.out _).mono ?_; rintro e w1 ⟨rfl, hb1⟩; obtain ⟨k1, k2⟩ := ncell hb1)
          | (go_at_call 40; refine (H40.out _).mono ?_; rintro e w2 ⟨rfl, hb2⟩))
          go_ret2
          exact ⟨rfl, ntrans (nbox hb1) hb2⟩
  · have h0' : s.size = 0 := by omega
    have hb : bt s 0 = 0 := by simp [bt, h0]
    have h40 := fun w => n40 s 0 c sz vs here one w hs (by omega) ha
    rcases nAns_cases s ⟨one, sz, vs, here, false⟩ rfl 0 with ⟨b, x, hx, hA, hN⟩ | ⟨n, en, hA, hN⟩
    · have hW : whole s (sNum s ⟨one, sz, vs, here, false⟩) = (0, (x : Int)) := by unfold sNum; rw [hb, if_neg (by omega), if_neg (by omega), hN]; rfl
      rw [hW]
      rw [hA] at h40
      have H40 := Lib.hid h40
      have e0 : ((x : Int) != 0) = true := by simp; omega
      clear h40 hA hN hW ha hM
      have hne := empty_t h0'
      have hnl := empty_l h0'
      go_enter Tryd.func22, Tryd.ntmps22
      go_wp2_with (first
        | (go_at_call 39; refine (H39.out _).mono ?_; rintro e w1 ⟨rfl, hb1⟩; obtain ⟨k1, k2⟩ := ncell hb1)
        | (go_at_call 40; refine (H40.out _).mono ?_; rintro e w2 ⟨rfl, hb2⟩))
      go_ret2
      exact ⟨rfl, ntrans (nbox hb1) hb2⟩
    · exact absurd (numF_ok hN (by omega)).2 (by omega)
end Go.Proofs.YtonhglhdbpmnhaaDoor
