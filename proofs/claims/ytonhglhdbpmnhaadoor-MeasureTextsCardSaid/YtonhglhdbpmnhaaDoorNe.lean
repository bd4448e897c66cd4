/- Walks of the document's own answers to layer 1: operands, by what stands behind the signs. -/
import Derived.Test.YtonhglhdbpmnhaaDoorNd
namespace Go.Proofs.YtonhglhdbpmnhaaDoor
open Go.RowKit

theorem idx_i {s : ByteArray} {y : Nat} (h : y < s.size) : bt s y = (s[y]'h).toNat := by simp [bt, h]
theorem ret_iii {k l m : IntKind} {a b c d e f : Int} (h : a = b) (h2 : c = d) (h3 : e = f) : Ending.returned (.tuple #[.int k a, .int l c, .int m e]) = .returned (.tuple #[.int k b, .int l d, .int m f]) := by rw [h, h2, h3]

/-- 60: operand: nothing is left. -/
theorem n60z (s : ByteArray) (hs : s.size ≤ 100000) (sc : Nat) (sz vs here : Int) (fm : Bool) (i deep : Nat) (hi : i ≤ s.size) (hd : deep ≤ 20) (hz : s.size ≤ skp s deep i) (w : World) :
    Calls Tryd.prog 60 #[rdr s sc sz vs here fm, .int .i64 i, .int .i64 deep] w (RPost fm w (.err 4)) := by
  have h62 : ∀ w, Calls Tryd.prog 62 #[rdr s sc sz vs here fm, .int .i64 i, .int .i64 deep] w fun e w' => e = .returned (.int .i64 (skp s deep i)) ∧ Below w.heap.size w w' := fun w => n62 s sc sz vs here fm i deep w hs hi (by omega)
  generalize skp s deep i = p at h62 hz
  have H62 := Lib.hid h62
  clear h62
  go_enter Tryd.func60, Tryd.ntmps60
  go_wp2_with (first
    | (go_at_call 62; refine (H62.out _).mono ?_; rintro e w1 ⟨rfl, hb1⟩; have hr1 := (RB.init s sc sz vs here fm w).below hb1; obtain ⟨c0, c1, c2, c3, c4, c5⟩ := hr1.cells))
  go_ret3
  exact ⟨⟨0, 0, rfl⟩, hr1.2⟩

/-- 60: operand: a number. -/
theorem n60n (s : ByteArray) (hs : s.size ≤ 100000) (sc : Nat) (sz vs here one : Int) (fm : Bool) (ho : argF sc sz vs here = some one) (i deep : Nat) (hi : i ≤ s.size) (hd : deep ≤ 20) (hlt : skp s deep i < s.size) (h40 : bt s (skp s deep i) ≠ 40) (hsg : isSign (bt s (skp s deep i)) = false) (w : World) :
    Calls Tryd.prog 60 #[rdr s sc sz vs here fm, .int .i64 i, .int .i64 deep] w (RPost fm w (numF s ⟨one, sz, vs, here, fm⟩ (skp s deep i))) := by
  have h62 : ∀ w, Calls Tryd.prog 62 #[rdr s sc sz vs here fm, .int .i64 i, .int .i64 deep] w fun e w' => e = .returned (.int .i64 (skp s deep i)) ∧ Below w.heap.size w w' := fun w => n62 s sc sz vs here fm i deep w hs hi (by omega)
  generalize skp s deep i = p at h62 hlt h40 hsg ⊢
  have hbt := idx_i hlt
  rw [hbt] at h40 hsg
  simp only [isSign, Bool.or_eq_false_iff, beq_eq_false_iff_ne] at hsg
  obtain ⟨⟨⟨k1, k2⟩, k3⟩, k4⟩ := hsg
  have e40 : (((s[p]'hlt).toNat : Int) == 40) = false := by simp; omega
  have e43 : (((s[p]'hlt).toNat : Int) == 43) = false := by simp; omega
  have e45 : (((s[p]'hlt).toNat : Int) == 45) = false := by simp; omega
  have e33 : (((s[p]'hlt).toNat : Int) == 33) = false := by simp; omega
  have e124 : (((s[p]'hlt).toNat : Int) == 124) = false := by simp; omega
  have h40' : ∀ w, Calls Tryd.prog 40 #[.string s, .int .i64 p, .int .u8 sc, .agg #[.int .i64 sz, .int .i64 vs, .int .i64 here]] w _ := fun w => n40 s p sc sz vs here one w hs (by omega) ho
  have H62 := Lib.hid h62
  by_cases hz : dCount s p = 0 ∧ nPart s p = false
  · have hA : nAns s ⟨one, sz, vs, here, false⟩ p = (0, 0, 4) := by unfold nAns; rw [if_pos hz]
    have hN : numF s ⟨one, sz, vs, here, fm⟩ p = .err 4 := by unfold numF; rw [if_pos hz]
    rw [hA] at h40'
    rw [hN]
    have H40 := Lib.hid h40'
    clear h62 hbt h40 k1 k2 k3 k4 h40' hA hN hz ho
    cases fm
    all_goals
      go_enter Tryd.func60, Tryd.ntmps60
      go_wp2_with (first
        | (go_at_call 62; refine (H62.out _).mono ?_; rintro e w1 ⟨rfl, hb1⟩; have hr1 := (RB.init s sc sz vs here _ w).below hb1; obtain ⟨c0, c1, c2, c3, c4, c5⟩ := hr1.cells)
        | (go_at_call 40; refine (H40.out _).mono ?_; rintro e w2 ⟨rfl, hb2⟩; have hr2 := hr1.below hb2; obtain ⟨d0, d1, d2, d3, d4, d5⟩ := hr2.cells))
      go_ret3
      exact ⟨⟨_, _, rfl⟩, hr2.2⟩
  · by_cases hw : within (nVal s ⟨one, sz, vs, here, false⟩ p) = true
    · have hA : nAns s ⟨one, sz, vs, here, false⟩ p = (nVal s ⟨one, sz, vs, here, false⟩ p, ((nTo s ⟨one, sz, vs, here, false⟩ p : Nat) : Int), 0) := by unfold nAns; rw [if_neg hz, if_pos hw]
      rw [hA] at h40'
      have H40 := Lib.hid h40'
      cases fm
      · have hN : numF s ⟨one, sz, vs, here, false⟩ p = .ok (nVal s ⟨one, sz, vs, here, false⟩ p) (nTo s ⟨one, sz, vs, here, false⟩ p) := by
          unfold numF bdd; rw [if_neg hz]; simp [hw]
        rw [hN]
        clear h62 hbt h40 k1 k2 k3 k4 h40' hA hN hz ho hw
        go_enter Tryd.func60, Tryd.ntmps60
        go_wp2_with (first
          | (go_at_call 62; refine (H62.out _).mono ?_; rintro e w1 ⟨rfl, hb1⟩; have hr1 := (RB.init s sc sz vs here _ w).below hb1; obtain ⟨c0, c1, c2, c3, c4, c5⟩ := hr1.cells)
          | (go_at_call 40; refine (H40.out _).mono ?_; rintro e w2 ⟨rfl, hb2⟩; have hr2 := hr1.below hb2; obtain ⟨d0, d1, d2, d3, d4, d5⟩ := hr2.cells))
        go_ret3
        exact ⟨⟨_, fun _ => rfl, rfl⟩, hr2.2⟩
      · have hN : numF s ⟨one, sz, vs, here, true⟩ p = .ok 0 (nTo s ⟨one, sz, vs, here, false⟩ p) := by
          unfold numF bdd; rw [if_neg hz]; rfl
        rw [hN]
        clear h62 hbt h40 k1 k2 k3 k4 h40' hA hN hz ho hw
        go_enter Tryd.func60, Tryd.ntmps60
        go_wp2_with (first
          | (go_at_call 62; refine (H62.out _).mono ?_; rintro e w1 ⟨rfl, hb1⟩; have hr1 := (RB.init s sc sz vs here _ w).below hb1; obtain ⟨c0, c1, c2, c3, c4, c5⟩ := hr1.cells)
          | (go_at_call 40; refine (H40.out _).mono ?_; rintro e w2 ⟨rfl, hb2⟩; have hr2 := hr1.below hb2; obtain ⟨d0, d1, d2, d3, d4, d5⟩ := hr2.cells))
        go_ret3
        exact ⟨⟨_, fun h => (by cases h), rfl⟩, hr2.2⟩
    · have hw' : within (nVal s ⟨one, sz, vs, here, false⟩ p) = false := by simpa using hw
      have hA : nAns s ⟨one, sz, vs, here, false⟩ p = (0, ((nTo s ⟨one, sz, vs, here, false⟩ p : Nat) : Int), 5) := by unfold nAns; rw [if_neg hz, if_neg hw]
      rw [hA] at h40'
      have H40 := Lib.hid h40'
      cases fm
      · have hN : numF s ⟨one, sz, vs, here, false⟩ p = .err 5 := by
          unfold numF bdd; rw [if_neg hz]; simp [hw']
        rw [hN]
        clear h62 hbt h40 k1 k2 k3 k4 h40' hA hN hz ho hw hw'
        go_enter Tryd.func60, Tryd.ntmps60
        go_wp2_with (first
          | (go_at_call 62; refine (H62.out _).mono ?_; rintro e w1 ⟨rfl, hb1⟩; have hr1 := (RB.init s sc sz vs here _ w).below hb1; obtain ⟨c0, c1, c2, c3, c4, c5⟩ := hr1.cells)
          | (go_at_call 40; refine (H40.out _).mono ?_; rintro e w2 ⟨rfl, hb2⟩; have hr2 := hr1.below hb2; obtain ⟨d0, d1, d2, d3, d4, d5⟩ := hr2.cells))
        go_ret3
        exact ⟨⟨_, _, rfl⟩, hr2.2⟩
      · have hN : numF s ⟨one, sz, vs, here, true⟩ p = .ok 0 (nTo s ⟨one, sz, vs, here, false⟩ p) := by
          unfold numF bdd; rw [if_neg hz]; rfl
        rw [hN]
        clear h62 hbt h40 k1 k2 k3 k4 h40' hA hN hz ho hw hw'
        go_enter Tryd.func60, Tryd.ntmps60
        go_wp2_with (first
          | (go_at_call 62; refine (H62.out _).mono ?_; rintro e w1 ⟨rfl, hb1⟩; have hr1 := (RB.init s sc sz vs here _ w).below hb1; obtain ⟨c0, c1, c2, c3, c4, c5⟩ := hr1.cells)
          | (go_at_call 40; refine (H40.out _).mono ?_; rintro e w2 ⟨rfl, hb2⟩; have hr2 := hr1.below hb2; obtain ⟨d0, d1, d2, d3, d4, d5⟩ := hr2.cells))
        go_ret3
        exact ⟨⟨_, fun h => (by cases h), rfl⟩, hr2.2⟩
end Go.Proofs.YtonhglhdbpmnhaaDoor
