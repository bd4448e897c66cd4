/- Walks of package measure: Eval, Number, Prefix, Change. -/
import Derived.Test.YtonhglhdbpmnhaaDoorMj
namespace Go.Proofs.YtonhglhdbpmnhaaDoor
open Go.RowKit

theorem reads36 (s : ByteArray) (hs : s.size ≤ 100000) (M : Md) (hM : M.okay) (hfm : M.fm = false) : Reads 36 s M (evT s M) := by
  intro g w hg hR hO
  have h := (c_ev g hg s hs M hM (fuel s)).2 0 0 _ (evT_eq s M) (by omega) (by omega) (fun h => by rw [hfm] at h; cases h.1) w hR hO
  rw [nxt_zero] at h
  exact h
/-- 18: Eval. -/
theorem c18 (s : ByteArray) (hs : s.size ≤ 100000) (c : Nat) (sz vs here : Int) (w : World) (hO : OpsAt w) :
    Calls Tryd.prog 18 #[.string s, .int .u8 c, .agg #[.int .i64 sz, .int .i64 vs, .int .i64 here]] w fun e w' => e = .returned (.tuple #[.int .i64 (evalA s c sz vs here).1, .int .i64 (evalA s c sz vs here).2]) ∧ Below w.heap.size w w' := by
  have h35 : ∀ w, OpsAt w → Calls Tryd.prog 35 #[.string s, .int .u8 c, .agg #[.int .i64 sz, .int .i64 vs, .int .i64 here], .func (.func 36) #[] #[]] w fun e w' => e = .returned (.tuple #[.int .i64 (evalA s c sz vs here).1, .int .i64 (evalA s c sz vs here).2]) ∧ Below w.heap.size w w' := by
    intro w hO
    unfold evalA
    rcases ha : argF c sz vs here with _ | one
    · exact c35u 36 s c sz vs here w ha
    · have hr := reads36 s hs ⟨one, sz, vs, here, false⟩ (argF_okay ha false) rfl
      simp only
      rcases hv : evT s ⟨one, sz, vs, here, false⟩ with ⟨n, to⟩ | x
      · rw [hv] at hr
        by_cases ht : to = s.size
        · subst ht
          simp only [whole, if_true]
          exact c35a36 s c sz vs here one w hO ha n hr
        · simp only [whole, if_neg ht]
          exact c35b36 s c sz vs here one w hO ha n to ht hr
      · rw [hv] at hr
        exact c35e36 s c sz vs here one w hO ha x hr
  have H35 := Lib.hid h35
  clear h35
  go_enter Tryd.func18, Tryd.ntmps18
  go_wp2_with (go_at_call 35; refine (H35.out _ (hO.alloc _)).mono ?_; rintro e w1 ⟨rfl, hb1⟩)
  go_ret2
  exact ⟨rfl, below_box hb1⟩

/-- 38: signedNumber. -/
theorem numF_digit {s : ByteArray} {M : Md} {i : Nat} {n : Int} {to : Nat} (h : numF s M i = .ok n to) : (48 ≤ bt s i ∧ bt s i ≤ 57) ∨ bt s i = 46 := by
  unfold numF at h
  split at h
  · cases h
  · rename_i hne
    by_cases h1 : dCount s i = 0
    · have h2 : nPart s i = true := by
        by_cases h3 : nPart s i = true
        · exact h3
        · exact absurd ⟨h1, by simpa using h3⟩ hne
      right
      simp only [nPart, h1, Nat.add_zero, Bool.and_eq_true, beq_iff_eq] at h2
      omega
    · left
      exact isDig_iff.1 (dCount_all (s := s) (i := i) (k := 0) (by omega))
theorem c38 (g : Nat) (s : ByteArray) (hs : s.size ≤ 100000) (M : Md) (hM : M.okay) (w : World) (h : Rd w g s M 0 0) :
    Calls Tryd.prog 38 #[.pointer (some ⟨g, 0, none⟩)] w (CPost w g s M 0 (sNum s M)) := by
  have hsz : s.size ≤ maxLen := by unfold maxLen; omega
  have h0 := h.c0
  have h1 := h.c1
  have hf := h.fz 1
  by_cases e43 : bt s 0 = 43
  · have hi : 0 < s.size := bt_lt (by omega)
    have hm1 := (Moved.refl h).step 1 1 rfl
    have hn := c58 g s M 1 0 _ hm1.1 hs (by omega) hM
    unfold sNum
    rw [if_pos e43]
    rcases hnf : numF s M 1 with ⟨n, to⟩ | x
    · rw [hnf] at hn
      have HN := Lib.hid hn
      have HB := Lib.hid e43
      have hb : ((bt s 0 : Int) == 43) = true := by simp; omega
      clear hn e43 hnf
      go_enter Tryd.func38, Tryd.ntmps38
      go_wp2_with (first
        | (go_at_call 56; refine (c56i g s 0 0 rfl _ h0 hsz).mono ?_; rintro e w' ⟨rfl, rfl⟩)
        | (go_at_call 58; refine HN.out.mono ?_; rintro e w2 ⟨rfl, hm2⟩)
        | (go_at_call 57; refine (c57x g _ _ _ (by rw [HB.out]; rfl) (by rw [HB.out]; rfl) (by rw [HB.out]; rfl)).mono ?_; rintro e w' ⟨rfl, rfl⟩))
      go_ret
      exact ⟨rfl, hm1.trans hm2⟩
    · rw [hnf] at hn
      have HN := Lib.hid hn
      have hb : ((bt s 0 : Int) == 43) = true := by simp; omega
      clear hn e43 hnf
      go_enter Tryd.func38, Tryd.ntmps38
      go_wp2_with (first
        | (go_at_call 56; refine (c56i g s 0 0 rfl _ h0 hsz).mono ?_; rintro e w' ⟨rfl, rfl⟩)
        | (go_at_call 58; refine HN.out.mono ?_; rintro e w2 ⟨rfl, hm2⟩))
      exact ⟨rfl, rfl, only_trans hm1.2 hm2⟩
  · by_cases e45 : bt s 0 = 45
    · have hi : 0 < s.size := bt_lt (by omega)
      have hm1 := (Moved.refl h).step 1 1 rfl
      have hn := c58 g s M 1 0 _ hm1.1 hs (by omega) hM
      have hb1 : ((bt s 0 : Int) == 43) = false := by simp; omega
      have hb : ((bt s 0 : Int) == 45) = true := by simp; omega
      unfold sNum
      rw [if_neg e43, if_pos e45]
      rcases hnf : numF s M 1 with ⟨n, to⟩ | x
      · rw [hnf] at hn
        have hw := (numF_ok hnf (by omega)).1
        have HN := Lib.hid hn
        have h57 := c57n g n
        have HB := Lib.hid e45
        clear hn e45 e43 hnf
        go_enter Tryd.func38, Tryd.ntmps38
        go_wp2_with (first
          | (go_at_call 56; refine (c56i g s 0 0 rfl _ h0 hsz).mono ?_; rintro e w' ⟨rfl, rfl⟩)
          | (go_at_call 58; refine HN.out.mono ?_; rintro e w2 ⟨rfl, hm2⟩)
          | (go_at_call 57; rw [HB.out]; refine (c57n g n _ hw).mono ?_; rintro e w' ⟨rfl, rfl⟩))
        go_ret
        exact ⟨rfl, hm1.trans hm2⟩
      · rw [hnf] at hn
        have HN := Lib.hid hn
        clear hn e45 e43 hnf
        go_enter Tryd.func38, Tryd.ntmps38
        go_wp2_with (first
          | (go_at_call 56; refine (c56i g s 0 0 rfl _ h0 hsz).mono ?_; rintro e w' ⟨rfl, rfl⟩)
          | (go_at_call 58; refine HN.out.mono ?_; rintro e w2 ⟨rfl, hm2⟩))
        exact ⟨rfl, rfl, only_trans hm1.2 hm2⟩
    · have hm1 := Moved.refl h
      have hn := c58 g s M 0 0 w h hs (by omega) hM
      have hb1 : ((bt s 0 : Int) == 43) = false := by simp; omega
      have hb : ((bt s 0 : Int) == 45) = false := by simp; omega
      unfold sNum
      rw [if_neg e43, if_neg e45]
      rcases hnf : numF s M 0 with ⟨n, to⟩ | x
      · rw [hnf] at hn
        have hdg := numF_digit hnf
        have hb2 : ((bt s 0 : Int) == 33) = false := by simp; omega
        have hb3 : ((bt s 0 : Int) == 124) = false := by simp; omega
        have HN := Lib.hid hn
        clear hn e45 e43 hnf hdg
        go_enter Tryd.func38, Tryd.ntmps38
        go_wp2_with (first
          | (go_at_call 56; refine (c56i g s 0 0 rfl _ h0 hsz).mono ?_; rintro e w' ⟨rfl, rfl⟩)
          | (go_at_call 58; refine HN.out.mono ?_; rintro e w2 ⟨rfl, hm2⟩)
          | (go_at_call 57; refine (c57x g _ n _ hb hb2 hb3).mono ?_; rintro e w' ⟨rfl, rfl⟩))
        go_ret
        exact ⟨rfl, hm2⟩
      · rw [hnf] at hn
        have HN := Lib.hid hn
        clear hn e45 e43 hnf
        go_enter Tryd.func38, Tryd.ntmps38
        go_wp2_with (first
          | (go_at_call 56; refine (c56i g s 0 0 rfl _ h0 hsz).mono ?_; rintro e w' ⟨rfl, rfl⟩)
          | (go_at_call 58; refine HN.out.mono ?_; rintro e w2 ⟨rfl, hm2⟩))
        exact ⟨rfl, rfl, hm2⟩
/-- 21: Number. -/
theorem c21 (s : ByteArray) (hs : s.size ≤ 100000) (c : Nat) (sz vs here : Int) (w : World) (hO : OpsAt w) :
    Calls Tryd.prog 21 #[.string s, .int .u8 c, .agg #[.int .i64 sz, .int .i64 vs, .int .i64 here]] w fun e w' => e = .returned (.tuple #[.int .i64 (numA s c sz vs here).1, .int .i64 (numA s c sz vs here).2]) ∧ Below w.heap.size w w' := by
  have h35 : ∀ w, OpsAt w → Calls Tryd.prog 35 #[.string s, .int .u8 c, .agg #[.int .i64 sz, .int .i64 vs, .int .i64 here], .func (.func 38) #[] #[]] w fun e w' => e = .returned (.tuple #[.int .i64 (numA s c sz vs here).1, .int .i64 (numA s c sz vs here).2]) ∧ Below w.heap.size w w' := by
    intro w hO
    unfold numA
    rcases ha : argF c sz vs here with _ | one
    · exact c35u 38 s c sz vs here w ha
    · have hr : Reads 38 s ⟨one, sz, vs, here, false⟩ (sNum s ⟨one, sz, vs, here, false⟩) := fun g w _ hR _ => c38 g s hs _ (argF_okay ha false) w hR
      simp only
      rcases hv : sNum s ⟨one, sz, vs, here, false⟩ with ⟨n, to⟩ | x
      · rw [hv] at hr
        by_cases ht : to = s.size
        · subst ht
          simp only [whole, if_true]
          exact c35a38 s c sz vs here one w hO ha n hr
        · simp only [whole, if_neg ht]
          exact c35b38 s c sz vs here one w hO ha n to ht hr
      · rw [hv] at hr
        exact c35e38 s c sz vs here one w hO ha x hr
  have H35 := Lib.hid h35
  clear h35
  go_enter Tryd.func21, Tryd.ntmps21
  go_wp2_with (go_at_call 35; refine (H35.out _ (hO.alloc _)).mono ?_; rintro e w1 ⟨rfl, hb1⟩)
  go_ret2
  exact ⟨rfl, below_box hb1⟩
end Go.Proofs.YtonhglhdbpmnhaaDoor
