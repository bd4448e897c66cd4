/- Walks of the document's own answers to layer 1: operands, brackets and signs. -/
import Derived.Test.YtonhglhdbpmnhaaDoorNe
namespace Go.Proofs.YtonhglhdbpmnhaaDoor
open Go.RowKit

def RSum (s : ByteArray) (sc : Nat) (sz vs here : Int) (fm : Bool) (i deep : Nat) (r : Res) : Prop :=
  ∀ w, Calls Tryd.prog 41 #[rdr s sc sz vs here fm, .int .i64 i, .int .i64 deep] w (RPost fm w r)
def ROpd (s : ByteArray) (sc : Nat) (sz vs here : Int) (fm : Bool) (i deep : Nat) (r : Res) : Prop :=
  ∀ w, Calls Tryd.prog 60 #[rdr s sc sz vs here fm, .int .i64 i, .int .i64 deep] w (RPost fm w r)
/-- 60: operand: a bracket that is too deep. -/
theorem n60d (s : ByteArray) (hs : s.size ≤ 100000) (sc : Nat) (sz vs here : Int) (fm : Bool) (i : Nat) (hi : i ≤ s.size) (hlt : skp s 20 i < s.size) (h40 : bt s (skp s 20 i) = 40) : ROpd s sc sz vs here fm i 20 (.err 4) := by
  intro w
  have h62 : ∀ w, Calls Tryd.prog 62 #[rdr s sc sz vs here fm, .int .i64 i, .int .i64 ((20 : Nat))] w fun e w' => e = .returned (.int .i64 (skp s 20 i)) ∧ Below w.heap.size w w' := fun w => n62 s sc sz vs here fm i 20 w hs hi (by omega)
  generalize skp s 20 i = p at h62 hlt h40 ⊢
  have hbt := idx_i hlt
  rw [hbt] at h40
  have e40 : (((s[p]'hlt).toNat : Int) == 40) = true := by simp; omega
  have H62 := Lib.hid h62
  clear h62 hbt h40
  go_enter Tryd.func60, Tryd.ntmps60
  go_wp2_with (first
    | (go_at_call 62; refine (H62.out _).mono ?_; rintro e w1 ⟨rfl, hb1⟩; have hr1 := (RB.init s sc sz vs here fm w).below hb1; obtain ⟨c0, c1, c2, c3, c4, c5⟩ := hr1.cells))
  go_ret3
  exact ⟨⟨0, 0, rfl⟩, hr1.2⟩
/-- 60: operand: a bracket with an error in it. -/
theorem n60e (s : ByteArray) (hs : s.size ≤ 100000) (sc : Nat) (sz vs here : Int) (fm : Bool) (i deep x : Nat) (hi : i ≤ s.size) (hd : deep < 20) (hlt : skp s deep i < s.size) (h40 : bt s (skp s deep i) = 40) (hx : x ≠ 0) (hS : RSum s sc sz vs here fm (skp s deep i + 1) (deep + 1) (.err x)) : ROpd s sc sz vs here fm i deep (.err x) := by
  intro w
  have h62 : ∀ w, Calls Tryd.prog 62 #[rdr s sc sz vs here fm, .int .i64 i, .int .i64 deep] w fun e w' => e = .returned (.int .i64 (skp s deep i)) ∧ Below w.heap.size w w' := fun w => n62 s sc sz vs here fm i deep w hs hi (by omega)
  generalize skp s deep i = p at h62 hlt h40 hS ⊢
  have hbt := idx_i hlt
  rw [hbt] at h40
  have e40 : (((s[p]'hlt).toNat : Int) == 40) = true := by simp; omega
  have e20 : ((deep : Int) == 20) = false := by simp; omega
  have e0 : ((x : Int) != 0) = true := by simp; omega
  have H62 := Lib.hid h62
  have HS := Lib.hid (fun w => spec_e (hS w))
  clear h62 hbt h40 hS
  go_enter Tryd.func60, Tryd.ntmps60
  go_wp2_with (first
    | (go_at_call 62; refine (H62.out _).mono ?_; rintro e w1 ⟨rfl, hb1⟩; have hr1 := (RB.init s sc sz vs here fm w).below hb1; obtain ⟨c0, c1, c2, c3, c4, c5⟩ := hr1.cells)
    | (go_at_call 41; refine (HS.out _).mono ?_; rintro e w2 ⟨⟨a, b, rfl⟩, hb2⟩; have hr2 := hr1.below hb2))
  go_ret3
  exact ⟨⟨0, 0, rfl⟩, hr2.2⟩
/-- 60: operand: a bracket that is closed, or not. -/
theorem n60b (s : ByteArray) (hs : s.size ≤ 100000) (sc : Nat) (sz vs here : Int) (fm : Bool) (i deep : Nat) (n : Int) (en : Nat) (hi : i ≤ s.size) (hd : deep < 20) (hlt : skp s deep i < s.size) (h40 : bt s (skp s deep i) = 40) (hen : en ≤ s.size) (hS : RSum s sc sz vs here fm (skp s deep i + 1) (deep + 1) (.ok n en)) :
    ROpd s sc sz vs here fm i deep (if bt s (skp s (deep + 1) en) = 41 then .ok n (skp s (deep + 1) en + 1) else .err 4) := by
  intro w
  have h62 : ∀ w, Calls Tryd.prog 62 #[rdr s sc sz vs here fm, .int .i64 i, .int .i64 deep] w fun e w' => e = .returned (.int .i64 (skp s deep i)) ∧ Below w.heap.size w w' := fun w => n62 s sc sz vs here fm i deep w hs hi (by omega)
  have h62b : ∀ w, Calls Tryd.prog 62 #[rdr s sc sz vs here fm, .int .i64 en, .int .i64 ((deep + 1 : Nat))] w fun e w' => e = .returned (.int .i64 (skp s (deep + 1) en)) ∧ Below w.heap.size w w' := fun w => n62 s sc sz vs here fm en (deep + 1) w hs hen (by omega)
  have hql := skp_le (deep := deep + 1) hen
  generalize skp s deep i = p at h62 hlt h40 hS ⊢
  generalize skp s (deep + 1) en = q at h62b hql ⊢
  have hbt := idx_i hlt
  rw [hbt] at h40
  have e40 : (((s[p]'hlt).toNat : Int) == 40) = true := by simp; omega
  have e20 : ((deep : Int) == 20) = false := by simp; omega
  have H62 := Lib.hid h62
  have H62b := Lib.hid h62b
  have HS := Lib.hid (fun w => spec_ft (hS w))
  clear h62 h62b hbt h40 hS
  by_cases hq : q < s.size
  · have hbq := idx_i hq
    by_cases h41 : bt s q = 41
    · rw [if_pos h41]
      rw [hbq] at h41
      have e41 : (((s[q]'hq).toNat : Int) != 41) = false := by simp; omega
      clear h41 hbq
      go_enter Tryd.func60, Tryd.ntmps60
      go_wp2_with (first
        | (go_at_call 62; (with_reducible refine (H62.out _).mono ?_); rintro e w1 ⟨rfl, hb1⟩; have hr1 := (RB.init s sc sz vs here fm w).below hb1; obtain ⟨c0, c1, c2, c3, c4, c5⟩ := hr1.cells)
        | (go_at_call 41; refine (HS.out _).mono ?_; rintro e w2 ⟨⟨n', hn', rfl⟩, hb2⟩; have hr2 := hr1.below hb2; have HN := Lib.hid hn'; clear hn'; obtain ⟨d0, d1, d2, d3, d4, d5⟩ := hr2.cells)
        | (go_at_call 62; refine (H62b.out _).mono ?_; rintro e w3 ⟨rfl, hb3⟩; have hr3 := hr2.below hb3; obtain ⟨f0, f1, f2, f3, f4, f5⟩ := hr3.cells))
      go_ret3
      exact ⟨⟨_, HN.out, ret_iii rfl (by simp) rfl⟩, hr3.2⟩
    · rw [if_neg h41]
      rw [hbq] at h41
      have e41 : (((s[q]'hq).toNat : Int) != 41) = true := by simp; omega
      clear h41 hbq
      go_enter Tryd.func60, Tryd.ntmps60
      go_wp2_with (first
        | (go_at_call 62; (with_reducible refine (H62.out _).mono ?_); rintro e w1 ⟨rfl, hb1⟩; have hr1 := (RB.init s sc sz vs here fm w).below hb1; obtain ⟨c0, c1, c2, c3, c4, c5⟩ := hr1.cells)
        | (go_at_call 41; refine (HS.out _).mono ?_; rintro e w2 ⟨⟨n', hn', rfl⟩, hb2⟩; have hr2 := hr1.below hb2; have HN := Lib.hid hn'; clear hn'; obtain ⟨d0, d1, d2, d3, d4, d5⟩ := hr2.cells)
        | (go_at_call 62; refine (H62b.out _).mono ?_; rintro e w3 ⟨rfl, hb3⟩; have hr3 := hr2.below hb3; obtain ⟨f0, f1, f2, f3, f4, f5⟩ := hr3.cells))
      go_ret3
      exact ⟨⟨0, 0, rfl⟩, hr3.2⟩
  · have h41 : ¬ bt s q = 41 := by simp [bt, hq]
    rw [if_neg h41]
    clear h41
    go_enter Tryd.func60, Tryd.ntmps60
    go_wp2_with (first
      | (go_at_call 62; (with_reducible refine (H62.out _).mono ?_); rintro e w1 ⟨rfl, hb1⟩; have hr1 := (RB.init s sc sz vs here fm w).below hb1; obtain ⟨c0, c1, c2, c3, c4, c5⟩ := hr1.cells)
      | (go_at_call 41; refine (HS.out _).mono ?_; rintro e w2 ⟨⟨n', hn', rfl⟩, hb2⟩; have hr2 := hr1.below hb2; have HN := Lib.hid hn'; clear hn'; obtain ⟨d0, d1, d2, d3, d4, d5⟩ := hr2.cells)
      | (go_at_call 62; refine (H62b.out _).mono ?_; rintro e w3 ⟨rfl, hb3⟩; have hr3 := hr2.below hb3; obtain ⟨f0, f1, f2, f3, f4, f5⟩ := hr3.cells))
    go_ret3
    exact ⟨⟨0, 0, rfl⟩, hr3.2⟩

/-- 60: operand: a sign ahead of an error. -/
theorem n60se (s : ByteArray) (hs : s.size ≤ 100000) (sc : Nat) (sz vs here : Int) (fm : Bool) (i deep x : Nat) (hi : i ≤ s.size) (hd : deep ≤ 20) (hlt : skp s deep i < s.size) (hsg : isSign (bt s (skp s deep i)) = true) (hx : x ≠ 0) (hO : ROpd s sc sz vs here fm (skp s deep i + 1) deep (.err x)) : ROpd s sc sz vs here fm i deep (.err x) := by
  intro w
  have h62 : ∀ w, Calls Tryd.prog 62 #[rdr s sc sz vs here fm, .int .i64 i, .int .i64 deep] w fun e w' => e = .returned (.int .i64 (skp s deep i)) ∧ Below w.heap.size w w' := fun w => n62 s sc sz vs here fm i deep w hs hi (by omega)
  generalize skp s deep i = p at h62 hlt hsg hO ⊢
  have hbt := idx_i hlt
  rw [hbt] at hsg
  have hc : (s[p]'hlt).toNat = 43 ∨ (s[p]'hlt).toNat = 45 ∨ (s[p]'hlt).toNat = 33 ∨ (s[p]'hlt).toNat = 124 := by
    simp [isSign] at hsg; omega
  have H62 := Lib.hid h62
  have e0 : ((x : Int) != 0) = true := by simp; omega
  have HO := Lib.hid (fun w => spec_e (hO w))
  clear h62 hbt hsg hO
  rcases hc with hc | hc | hc | hc
  · have e40 : (((s[p]'hlt).toNat : Int) == 40) = false := by simp; omega
    have e43 : (((s[p]'hlt).toNat : Int) == 43) = true := by simp; omega
    have e45 : (((s[p]'hlt).toNat : Int) == 45) = false := by simp; omega
    have e33 : (((s[p]'hlt).toNat : Int) == 33) = false := by simp; omega
    have e124 : (((s[p]'hlt).toNat : Int) == 124) = false := by simp; omega
    clear hc
    go_enter Tryd.func60, Tryd.ntmps60
    go_wp2_with (first
      | (go_at_call 62; refine (H62.out _).mono ?_; rintro e w1 ⟨rfl, hb1⟩; have hr1 := (RB.init s sc sz vs here fm w).below hb1; obtain ⟨c0, c1, c2, c3, c4, c5⟩ := hr1.cells)
      | (go_at_call 60; refine (HO.out _).mono ?_; rintro e w2 ⟨⟨a, b, rfl⟩, hb2⟩; have hr2 := hr1.below hb2))
    go_ret3
    exact ⟨⟨_, _, rfl⟩, hr2.2⟩
  · have e40 : (((s[p]'hlt).toNat : Int) == 40) = false := by simp; omega
    have e43 : (((s[p]'hlt).toNat : Int) == 43) = false := by simp; omega
    have e45 : (((s[p]'hlt).toNat : Int) == 45) = true := by simp; omega
    have e33 : (((s[p]'hlt).toNat : Int) == 33) = false := by simp; omega
    have e124 : (((s[p]'hlt).toNat : Int) == 124) = false := by simp; omega
    clear hc
    go_enter Tryd.func60, Tryd.ntmps60
    go_wp2_with (first
      | (go_at_call 62; refine (H62.out _).mono ?_; rintro e w1 ⟨rfl, hb1⟩; have hr1 := (RB.init s sc sz vs here fm w).below hb1; obtain ⟨c0, c1, c2, c3, c4, c5⟩ := hr1.cells)
      | (go_at_call 60; refine (HO.out _).mono ?_; rintro e w2 ⟨⟨a, b, rfl⟩, hb2⟩; have hr2 := hr1.below hb2))
    go_ret3
    exact ⟨⟨_, _, rfl⟩, hr2.2⟩
  · have e40 : (((s[p]'hlt).toNat : Int) == 40) = false := by simp; omega
    have e43 : (((s[p]'hlt).toNat : Int) == 43) = false := by simp; omega
    have e45 : (((s[p]'hlt).toNat : Int) == 45) = false := by simp; omega
    have e33 : (((s[p]'hlt).toNat : Int) == 33) = true := by simp; omega
    have e124 : (((s[p]'hlt).toNat : Int) == 124) = false := by simp; omega
    clear hc
    go_enter Tryd.func60, Tryd.ntmps60
    go_wp2_with (first
      | (go_at_call 62; refine (H62.out _).mono ?_; rintro e w1 ⟨rfl, hb1⟩; have hr1 := (RB.init s sc sz vs here fm w).below hb1; obtain ⟨c0, c1, c2, c3, c4, c5⟩ := hr1.cells)
      | (go_at_call 60; refine (HO.out _).mono ?_; rintro e w2 ⟨⟨a, b, rfl⟩, hb2⟩; have hr2 := hr1.below hb2))
    go_ret3
    exact ⟨⟨_, _, rfl⟩, hr2.2⟩
  · have e40 : (((s[p]'hlt).toNat : Int) == 40) = false := by simp; omega
    have e43 : (((s[p]'hlt).toNat : Int) == 43) = false := by simp; omega
    have e45 : (((s[p]'hlt).toNat : Int) == 45) = false := by simp; omega
    have e33 : (((s[p]'hlt).toNat : Int) == 33) = false := by simp; omega
    have e124 : (((s[p]'hlt).toNat : Int) == 124) = true := by simp; omega
    clear hc
    go_enter Tryd.func60, Tryd.ntmps60
    go_wp2_with (first
      | (go_at_call 62; refine (H62.out _).mono ?_; rintro e w1 ⟨rfl, hb1⟩; have hr1 := (RB.init s sc sz vs here fm w).below hb1; obtain ⟨c0, c1, c2, c3, c4, c5⟩ := hr1.cells)
      | (go_at_call 60; refine (HO.out _).mono ?_; rintro e w2 ⟨⟨a, b, rfl⟩, hb2⟩; have hr2 := hr1.below hb2))
    go_ret3
    exact ⟨⟨_, _, rfl⟩, hr2.2⟩
/-- 60: operand: a sign, in form only. -/
theorem n60st (s : ByteArray) (hs : s.size ≤ 100000) (sc : Nat) (sz vs here : Int) (i deep en : Nat) (n m : Int) (hi : i ≤ s.size) (hd : deep ≤ 20) (hlt : skp s deep i < s.size) (hsg : isSign (bt s (skp s deep i)) = true) (hO : ROpd s sc sz vs here true (skp s deep i + 1) deep (.ok n en)) : ROpd s sc sz vs here true i deep (.ok m en) := by
  intro w
  have h62 : ∀ w, Calls Tryd.prog 62 #[rdr s sc sz vs here true, .int .i64 i, .int .i64 deep] w fun e w' => e = .returned (.int .i64 (skp s deep i)) ∧ Below w.heap.size w w' := fun w => n62 s sc sz vs here true i deep w hs hi (by omega)
  generalize skp s deep i = p at h62 hlt hsg hO ⊢
  have hbt := idx_i hlt
  rw [hbt] at hsg
  have hc : (s[p]'hlt).toNat = 43 ∨ (s[p]'hlt).toNat = 45 ∨ (s[p]'hlt).toNat = 33 ∨ (s[p]'hlt).toNat = 124 := by
    simp [isSign] at hsg; omega
  have H62 := Lib.hid h62
  have HO := Lib.hid (fun w => spec_ft (hO w))
  clear h62 hbt hsg hO
  rcases hc with hc | hc | hc | hc
  · have e40 : (((s[p]'hlt).toNat : Int) == 40) = false := by simp; omega
    have e43 : (((s[p]'hlt).toNat : Int) == 43) = true := by simp; omega
    have e45 : (((s[p]'hlt).toNat : Int) == 45) = false := by simp; omega
    have e33 : (((s[p]'hlt).toNat : Int) == 33) = false := by simp; omega
    have e124 : (((s[p]'hlt).toNat : Int) == 124) = false := by simp; omega
    clear hc
    go_enter Tryd.func60, Tryd.ntmps60
    go_wp2_with (first
      | (go_at_call 62; refine (H62.out _).mono ?_; rintro e w1 ⟨rfl, hb1⟩; have hr1 := (RB.init s sc sz vs here true w).below hb1; obtain ⟨c0, c1, c2, c3, c4, c5⟩ := hr1.cells)
      | (go_at_call 60; refine (HO.out _).mono ?_; rintro e w2 ⟨⟨n', hn', rfl⟩, hb2⟩; have hr2 := hr1.below hb2; clear hn'; obtain ⟨d0, d1, d2, d3, d4, d5⟩ := hr2.cells))
    go_ret3
    exact ⟨⟨_, fun h => (by cases h), rfl⟩, hr2.2⟩
  · have e40 : (((s[p]'hlt).toNat : Int) == 40) = false := by simp; omega
    have e43 : (((s[p]'hlt).toNat : Int) == 43) = false := by simp; omega
    have e45 : (((s[p]'hlt).toNat : Int) == 45) = true := by simp; omega
    have e33 : (((s[p]'hlt).toNat : Int) == 33) = false := by simp; omega
    have e124 : (((s[p]'hlt).toNat : Int) == 124) = false := by simp; omega
    clear hc
    go_enter Tryd.func60, Tryd.ntmps60
    go_wp2_with (first
      | (go_at_call 62; refine (H62.out _).mono ?_; rintro e w1 ⟨rfl, hb1⟩; have hr1 := (RB.init s sc sz vs here true w).below hb1; obtain ⟨c0, c1, c2, c3, c4, c5⟩ := hr1.cells)
      | (go_at_call 60; refine (HO.out _).mono ?_; rintro e w2 ⟨⟨n', hn', rfl⟩, hb2⟩; have hr2 := hr1.below hb2; clear hn'; obtain ⟨d0, d1, d2, d3, d4, d5⟩ := hr2.cells))
    go_ret3
    exact ⟨⟨_, fun h => (by cases h), rfl⟩, hr2.2⟩
  · have e40 : (((s[p]'hlt).toNat : Int) == 40) = false := by simp; omega
    have e43 : (((s[p]'hlt).toNat : Int) == 43) = false := by simp; omega
    have e45 : (((s[p]'hlt).toNat : Int) == 45) = false := by simp; omega
    have e33 : (((s[p]'hlt).toNat : Int) == 33) = true := by simp; omega
    have e124 : (((s[p]'hlt).toNat : Int) == 124) = false := by simp; omega
    clear hc
    go_enter Tryd.func60, Tryd.ntmps60
    go_wp2_with (first
      | (go_at_call 62; refine (H62.out _).mono ?_; rintro e w1 ⟨rfl, hb1⟩; have hr1 := (RB.init s sc sz vs here true w).below hb1; obtain ⟨c0, c1, c2, c3, c4, c5⟩ := hr1.cells)
      | (go_at_call 60; refine (HO.out _).mono ?_; rintro e w2 ⟨⟨n', hn', rfl⟩, hb2⟩; have hr2 := hr1.below hb2; clear hn'; obtain ⟨d0, d1, d2, d3, d4, d5⟩ := hr2.cells))
    go_ret3
    exact ⟨⟨_, fun h => (by cases h), rfl⟩, hr2.2⟩
  · have e40 : (((s[p]'hlt).toNat : Int) == 40) = false := by simp; omega
    have e43 : (((s[p]'hlt).toNat : Int) == 43) = false := by simp; omega
    have e45 : (((s[p]'hlt).toNat : Int) == 45) = false := by simp; omega
    have e33 : (((s[p]'hlt).toNat : Int) == 33) = false := by simp; omega
    have e124 : (((s[p]'hlt).toNat : Int) == 124) = true := by simp; omega
    clear hc
    go_enter Tryd.func60, Tryd.ntmps60
    go_wp2_with (first
      | (go_at_call 62; refine (H62.out _).mono ?_; rintro e w1 ⟨rfl, hb1⟩; have hr1 := (RB.init s sc sz vs here true w).below hb1; obtain ⟨c0, c1, c2, c3, c4, c5⟩ := hr1.cells)
      | (go_at_call 60; refine (HO.out _).mono ?_; rintro e w2 ⟨⟨n', hn', rfl⟩, hb2⟩; have hr2 := hr1.below hb2; clear hn'; obtain ⟨d0, d1, d2, d3, d4, d5⟩ := hr2.cells))
    go_ret3
    exact ⟨⟨_, fun h => (by cases h), rfl⟩, hr2.2⟩
/-- 60: operand: a sign. -/
theorem n60sf (s : ByteArray) (hs : s.size ≤ 100000) (sc : Nat) (sz vs here : Int) (one : Int) (ho : argF sc sz vs here = some one) (i deep en : Nat) (n : Int) (hn : within n = true) (hi : i ≤ s.size) (hd : deep ≤ 20) (hlt : skp s deep i < s.size) (hsg : isSign (bt s (skp s deep i)) = true) (hO : ROpd s sc sz vs here false (skp s deep i + 1) deep (.ok n en)) :
    ROpd s sc sz vs here false i deep (sgR ⟨one, sz, vs, here, false⟩ (bt s (skp s deep i)) (.ok n en)) := by
  intro w
  have hMo := argF_okay ho false
  obtain ⟨_, _, _, _, _, _, kh1, kh2⟩ := hMo
  have hnb := within_iff.1 hn
  have h62 : ∀ w, Calls Tryd.prog 62 #[rdr s sc sz vs here false, .int .i64 i, .int .i64 deep] w fun e w' => e = .returned (.int .i64 (skp s deep i)) ∧ Below w.heap.size w w' := fun w => n62 s sc sz vs here false i deep w hs hi (by omega)
  generalize skp s deep i = p at h62 hlt hsg hO ⊢
  have hbt := idx_i hlt
  rw [hbt] at hsg
  have hc : (s[p]'hlt).toNat = 43 ∨ (s[p]'hlt).toNat = 45 ∨ (s[p]'hlt).toNat = 33 ∨ (s[p]'hlt).toNat = 124 := by
    simp [isSign] at hsg; omega
  have H62 := Lib.hid h62
  rw [hbt]
  have HO := Lib.hid (fun w => spec_ff (hO w))
  clear h62 hbt hsg hO ho
  rcases hc with hc | hc | hc | hc
  · have hr : sgR ⟨one, sz, vs, here, false⟩ ((s[p]'hlt).toNat) (.ok n en) = .ok n en := by rw [hc]; rfl
    rw [hr]
    clear hr
    have e40 : (((s[p]'hlt).toNat : Int) == 40) = false := by simp; omega
    have e43 : (((s[p]'hlt).toNat : Int) == 43) = true := by simp; omega
    have e45 : (((s[p]'hlt).toNat : Int) == 45) = false := by simp; omega
    have e33 : (((s[p]'hlt).toNat : Int) == 33) = false := by simp; omega
    have e124 : (((s[p]'hlt).toNat : Int) == 124) = false := by simp; omega
    clear hc
    go_enter Tryd.func60, Tryd.ntmps60
    go_wp2_with (first
      | (go_at_call 62; refine (H62.out _).mono ?_; rintro e w1 ⟨rfl, hb1⟩; have hr1 := (RB.init s sc sz vs here false w).below hb1; obtain ⟨c0, c1, c2, c3, c4, c5⟩ := hr1.cells)
      | (go_at_call 60; refine (HO.out _).mono ?_; rintro e w2 ⟨rfl, hb2⟩; have hr2 := hr1.below hb2; obtain ⟨d0, d1, d2, d3, d4, d5⟩ := hr2.cells)
      | (go_at_call 43; refine (n43 _ _).mono ?_; rintro e w' ⟨rfl, rfl⟩))
    go_ret3
    exact ⟨⟨_, fun _ => rfl, rfl⟩, hr2.2⟩
  · have hr : sgR ⟨one, sz, vs, here, false⟩ ((s[p]'hlt).toNat) (.ok n en) = .ok (-n) en := by rw [hc]; rfl
    rw [hr]
    clear hr
    have hwn : within (-n) = true := within_iff.2 (by omega)
    have e40 : (((s[p]'hlt).toNat : Int) == 40) = false := by simp; omega
    have e43 : (((s[p]'hlt).toNat : Int) == 43) = false := by simp; omega
    have e45 : (((s[p]'hlt).toNat : Int) == 45) = true := by simp; omega
    have e33 : (((s[p]'hlt).toNat : Int) == 33) = false := by simp; omega
    have e124 : (((s[p]'hlt).toNat : Int) == 124) = false := by simp; omega
    clear hc
    go_enter Tryd.func60, Tryd.ntmps60
    go_wp2_with (first
      | (go_at_call 62; refine (H62.out _).mono ?_; rintro e w1 ⟨rfl, hb1⟩; have hr1 := (RB.init s sc sz vs here false w).below hb1; obtain ⟨c0, c1, c2, c3, c4, c5⟩ := hr1.cells)
      | (go_at_call 60; refine (HO.out _).mono ?_; rintro e w2 ⟨rfl, hb2⟩; have hr2 := hr1.below hb2; obtain ⟨d0, d1, d2, d3, d4, d5⟩ := hr2.cells)
      | (go_at_call 43; refine (n43 _ _).mono ?_; rintro e w' ⟨rfl, rfl⟩))
    go_ret3
    exact ⟨⟨_, fun _ => rfl, rfl⟩, hr2.2⟩
  · by_cases hn0 : n ≤ 0
    · have hr : sgR ⟨one, sz, vs, here, false⟩ ((s[p]'hlt).toNat) (.ok n en) = .ok 1 en := by rw [hc]; simp [sgR, sg1, truthI, hn0]
      rw [hr]
      clear hr
      have hwn : within 1 = true := by decide
      have e40 : (((s[p]'hlt).toNat : Int) == 40) = false := by simp; omega
      have e43 : (((s[p]'hlt).toNat : Int) == 43) = false := by simp; omega
      have e45 : (((s[p]'hlt).toNat : Int) == 45) = false := by simp; omega
      have e33 : (((s[p]'hlt).toNat : Int) == 33) = true := by simp; omega
      have e124 : (((s[p]'hlt).toNat : Int) == 124) = false := by simp; omega
      clear hc
      go_enter Tryd.func60, Tryd.ntmps60
      go_wp2_with (first
        | (go_at_call 62; refine (H62.out _).mono ?_; rintro e w1 ⟨rfl, hb1⟩; have hr1 := (RB.init s sc sz vs here false w).below hb1; obtain ⟨c0, c1, c2, c3, c4, c5⟩ := hr1.cells)
        | (go_at_call 60; refine (HO.out _).mono ?_; rintro e w2 ⟨rfl, hb2⟩; have hr2 := hr1.below hb2; obtain ⟨d0, d1, d2, d3, d4, d5⟩ := hr2.cells)
        | (go_at_call 43; refine (n43 _ _).mono ?_; rintro e w' ⟨rfl, rfl⟩))
      go_ret3
      exact ⟨⟨_, fun _ => rfl, rfl⟩, hr2.2⟩
    · have hr : sgR ⟨one, sz, vs, here, false⟩ ((s[p]'hlt).toNat) (.ok n en) = .ok 0 en := by rw [hc]; simp [sgR, sg1, truthI, hn0]
      rw [hr]
      clear hr
      have hwn : within 0 = true := by decide
      have e40 : (((s[p]'hlt).toNat : Int) == 40) = false := by simp; omega
      have e43 : (((s[p]'hlt).toNat : Int) == 43) = false := by simp; omega
      have e45 : (((s[p]'hlt).toNat : Int) == 45) = false := by simp; omega
      have e33 : (((s[p]'hlt).toNat : Int) == 33) = true := by simp; omega
      have e124 : (((s[p]'hlt).toNat : Int) == 124) = false := by simp; omega
      clear hc
      go_enter Tryd.func60, Tryd.ntmps60
      go_wp2_with (first
        | (go_at_call 62; refine (H62.out _).mono ?_; rintro e w1 ⟨rfl, hb1⟩; have hr1 := (RB.init s sc sz vs here false w).below hb1; obtain ⟨c0, c1, c2, c3, c4, c5⟩ := hr1.cells)
        | (go_at_call 60; refine (HO.out _).mono ?_; rintro e w2 ⟨rfl, hb2⟩; have hr2 := hr1.below hb2; obtain ⟨d0, d1, d2, d3, d4, d5⟩ := hr2.cells)
        | (go_at_call 43; refine (n43 _ _).mono ?_; rintro e w' ⟨rfl, rfl⟩))
      go_ret3
      exact ⟨⟨_, fun _ => rfl, rfl⟩, hr2.2⟩
  · cases hwn : within (n - here)
    · have hr : sgR ⟨one, sz, vs, here, false⟩ ((s[p]'hlt).toNat) (.ok n en) = .err 5 := by rw [hc]; simp [sgR, sg1, hwn]
      rw [hr]
      clear hr
      have e40 : (((s[p]'hlt).toNat : Int) == 40) = false := by simp; omega
      have e43 : (((s[p]'hlt).toNat : Int) == 43) = false := by simp; omega
      have e45 : (((s[p]'hlt).toNat : Int) == 45) = false := by simp; omega
      have e33 : (((s[p]'hlt).toNat : Int) == 33) = false := by simp; omega
      have e124 : (((s[p]'hlt).toNat : Int) == 124) = true := by simp; omega
      clear hc
      go_enter Tryd.func60, Tryd.ntmps60
      go_wp2_with (first
        | (go_at_call 62; refine (H62.out _).mono ?_; rintro e w1 ⟨rfl, hb1⟩; have hr1 := (RB.init s sc sz vs here false w).below hb1; obtain ⟨c0, c1, c2, c3, c4, c5⟩ := hr1.cells)
        | (go_at_call 60; refine (HO.out _).mono ?_; rintro e w2 ⟨rfl, hb2⟩; have hr2 := hr1.below hb2; obtain ⟨d0, d1, d2, d3, d4, d5⟩ := hr2.cells)
        | (go_at_call 43; refine (n43 _ _).mono ?_; rintro e w' ⟨rfl, rfl⟩))
      go_ret3
      exact ⟨⟨_, _, rfl⟩, hr2.2⟩
    · have hr : sgR ⟨one, sz, vs, here, false⟩ ((s[p]'hlt).toNat) (.ok n en) = .ok (n - here) en := by rw [hc]; simp [sgR, sg1, hwn]
      rw [hr]
      clear hr
      have e40 : (((s[p]'hlt).toNat : Int) == 40) = false := by simp; omega
      have e43 : (((s[p]'hlt).toNat : Int) == 43) = false := by simp; omega
      have e45 : (((s[p]'hlt).toNat : Int) == 45) = false := by simp; omega
      have e33 : (((s[p]'hlt).toNat : Int) == 33) = false := by simp; omega
      have e124 : (((s[p]'hlt).toNat : Int) == 124) = true := by simp; omega
      clear hc
      go_enter Tryd.func60, Tryd.ntmps60
      go_wp2_with (first
        | (go_at_call 62; refine (H62.out _).mono ?_; rintro e w1 ⟨rfl, hb1⟩; have hr1 := (RB.init s sc sz vs here false w).below hb1; obtain ⟨c0, c1, c2, c3, c4, c5⟩ := hr1.cells)
        | (go_at_call 60; refine (HO.out _).mono ?_; rintro e w2 ⟨rfl, hb2⟩; have hr2 := hr1.below hb2; obtain ⟨d0, d1, d2, d3, d4, d5⟩ := hr2.cells)
        | (go_at_call 43; refine (n43 _ _).mono ?_; rintro e w' ⟨rfl, rfl⟩))
      go_ret3
      exact ⟨⟨_, fun _ => rfl, rfl⟩, hr2.2⟩
end Go.Proofs.YtonhglhdbpmnhaaDoor
