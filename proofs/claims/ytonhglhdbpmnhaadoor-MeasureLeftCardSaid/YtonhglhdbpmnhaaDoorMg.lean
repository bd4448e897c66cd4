/- Walks of package measure's reader: brackets and operands, given what an expression within brackets comes to. -/
import Derived.Test.YtonhglhdbpmnhaaDoorMf
namespace Go.Proofs.YtonhglhdbpmnhaaDoor
open Go.RowKit

/-- What is known of an expression at a place and a depth. -/
def Sums (g : Nat) (s : ByteArray) (M : Md) (i deep : Nat) (r : Res) : Prop :=
  ∀ w, Rd w g s M i deep → OpsAt w → Calls Tryd.prog 36 #[.pointer (some ⟨g, 0, none⟩)] w (CPost w g s M deep (nxt s deep r))
def Opds (g : Nat) (s : ByteArray) (M : Md) (i deep : Nat) (r : Res) : Prop :=
  ∀ w, Rd w g s M i deep → OpsAt w → Calls Tryd.prog 52 #[.pointer (some ⟨g, 0, none⟩)] w (CPost w g s M deep r)
/-- What the first part of an operand, a number or a bracket, comes to. -/
def Base (g : Nat) (s : ByteArray) (M : Md) (f _i deep : Nat) (r : Res) (w : World) : Prop :=
  Calls Tryd.prog f #[.pointer (some ⟨g, 0, none⟩)] w (CPost w g s M deep r)
theorem OpsAt.moved {w w' : World} {g : Nat} {s : ByteArray} {M : Md} {p d : Nat} (h : OpsAt w) (hg : g ≠ 0) (k : Moved w g s M p d w') : OpsAt w' := h.grown hg k.2

/-- 70: bracket. -/
theorem c70a (g : Nat) (s : ByteArray) (M : Md) (i deep : Nat) (w : World) (h : Rd w g s M i deep) (hO : OpsAt w) (hg : g ≠ 0) (hs : s.size ≤ 100000) (hi : i < s.size) (hd : deep < 20) (n : Int) (to : Nat) (hto : to ≤ s.size)
    (hS : Sums g s M (i + 1) (deep + 1) (.ok n to)) (hc : bt s (skp s (deep + 1) to) = 41) :
    Calls Tryd.prog 70 #[.pointer (some ⟨g, 0, none⟩)] w fun e w' => e = .returned (.int .i64 n) ∧ Moved w g s M (skp s (deep + 1) to + 1) deep w' := by
  have hsz : s.size ≤ maxLen := by unfold maxLen; omega
  have hm0 := Moved.refl h
  have hm1 := hm0.sink (↑deep + 1) (deep + 1) (by simp)
  have hm2 := hm1.step (↑i + 1) (i + 1) (by simp)
  have hO2 := hO.moved hg hm2
  have hr2 := hm2.1
  have h0 := h.c0
  have h1 := h.c1
  have h2 := h.c2
  have hf1 := h.fz 1
  have hf2 := h.fz 2
  have hle := skp_le (deep := deep + 1) hto
  have hC := Lib.hid hc
  have hS' := hS _ hr2 hO2
  simp only [nxt] at hS'
  have HS := Lib.hid hS'
  clear hc hS hS' hm0 hm1
  have hdI : (deep : Int) < 20 := by omega
  go_enter Tryd.func70, Tryd.ntmps70
  go_wp2_with (first
    | (go_at_call 51; (with_reducible refine (c51t _ _).mono ?_); rintro e w' ⟨rfl, rfl⟩)
    | (go_at_call 36; refine HS.out.mono ?_; rintro e w3 ⟨rfl, hm3⟩; have g0 := hm3.1.c0; have g1 := hm3.1.c1; have g2 := hm3.1.c2; have gf1 := hm3.1.fz 1; have gf2 := hm3.1.fz 2)
    | (go_at_call 56; refine (c56 g s _ _ g0 hsz).mono ?_; rintro e w' ⟨rfl, rfl⟩; rw [hC.out]))
  go_ret
  exact ⟨rfl, ((hm2.trans hm3).step _ _ (by simp)).sink _ _ (by simp)⟩

/-- 70: bracket that is not closed. -/
theorem c70b (g : Nat) (s : ByteArray) (M : Md) (i deep : Nat) (w : World) (h : Rd w g s M i deep) (hO : OpsAt w) (hg : g ≠ 0) (hs : s.size ≤ 100000) (hi : i < s.size) (hd : deep < 20) (n : Int) (to : Nat) (hto : to ≤ s.size)
    (hS : Sums g s M (i + 1) (deep + 1) (.ok n to)) (hc : ¬ bt s (skp s (deep + 1) to) = 41) :
    Calls Tryd.prog 70 #[.pointer (some ⟨g, 0, none⟩)] w fun e w' => e = thrown 4 ∧ w.grownBy w' (some g) := by
  have hsz : s.size ≤ maxLen := by unfold maxLen; omega
  have hm0 := Moved.refl h
  have hm1 := hm0.sink (↑deep + 1) (deep + 1) (by simp)
  have hm2 := hm1.step (↑i + 1) (i + 1) (by simp)
  have hO2 := hO.moved hg hm2
  have hr2 := hm2.1
  have h0 := h.c0
  have h1 := h.c1
  have h2 := h.c2
  have hf1 := h.fz 1
  have hf2 := h.fz 2
  have hle := skp_le (deep := deep + 1) hto
  have hC := Lib.hid hc
  have hS' := hS _ hr2 hO2
  simp only [nxt] at hS'
  have HS := Lib.hid hS'
  clear hc hS hS' hm0 hm1
  have hdI : (deep : Int) < 20 := by omega
  go_enter Tryd.func70, Tryd.ntmps70
  go_wp2_with (first
    | (go_at_call 51; (with_reducible refine (c51t _ _).mono ?_); rintro e w' ⟨rfl, rfl⟩)
    | (go_at_call 51; (with_reducible refine (c51f _ _).mono ?_); rintro e w' ⟨rfl, rfl⟩)
    | (go_at_call 36; refine HS.out.mono ?_; rintro e w3 ⟨rfl, hm3⟩; have g0 := hm3.1.c0; have g1 := hm3.1.c1; have g2 := hm3.1.c2; have gf1 := hm3.1.fz 1; have gf2 := hm3.1.fz 2)
    | (go_at_call 56; refine (c56 g s _ _ g0 hsz).mono ?_; rintro e w' ⟨rfl, rfl⟩; have hne : ((bt s (skp s (deep + 1) to) : Int) == 41) = false := by (have := hC.out; simp; omega)))
  exact ⟨rfl, rfl, (hm2.trans hm3).2⟩

/-- 70: bracket with an error in it. -/
theorem c70c (g : Nat) (s : ByteArray) (M : Md) (i deep : Nat) (w : World) (h : Rd w g s M i deep) (hO : OpsAt w) (hg : g ≠ 0) (hs : s.size ≤ 100000) (hi : i < s.size) (hd : deep < 20) (x : Nat)
    (hS : Sums g s M (i + 1) (deep + 1) (.err x)) :
    Calls Tryd.prog 70 #[.pointer (some ⟨g, 0, none⟩)] w fun e w' => e = thrown x ∧ w.grownBy w' (some g) := by
  have hm0 := Moved.refl h
  have hm1 := hm0.sink (↑deep + 1) (deep + 1) (by simp)
  have hm2 := hm1.step (↑i + 1) (i + 1) (by simp)
  have hO2 := hO.moved hg hm2
  have hr2 := hm2.1
  have h0 := h.c0
  have h1 := h.c1
  have h2 := h.c2
  have hf1 := h.fz 1
  have hf2 := h.fz 2
  have hS' := hS _ hr2 hO2
  simp only [nxt] at hS'
  have HS := Lib.hid hS'
  clear hS hS' hm0 hm1
  have hdI : (deep : Int) < 20 := by omega
  go_enter Tryd.func70, Tryd.ntmps70
  go_wp2_with (first
    | (go_at_call 51; (with_reducible refine (c51t _ _).mono ?_); rintro e w' ⟨rfl, rfl⟩)
    | (go_at_call 36; refine HS.out.mono ?_; rintro e w3 ⟨rfl, hm3⟩))
  exact ⟨rfl, rfl, only_trans hm2.2 hm3⟩

/-- 70: bracket, too deep. -/
theorem c70d (g : Nat) (s : ByteArray) (M : Md) (i deep : Nat) (w : World) (h : Rd w g s M i deep) (hd : ¬ deep < 20) :
    Calls Tryd.prog 70 #[.pointer (some ⟨g, 0, none⟩)] w fun e w' => e = thrown 4 ∧ w.grownBy w' (some g) := by
  have h2 := h.c2
  have hdI : decide ((deep : Int) < 20) = false := by simp; omega
  go_enter Tryd.func70, Tryd.ntmps70
  go_wp2_with (first
    | (go_at_call 51; (with_reducible refine (c51f _ _).mono ?_); rintro e w' ⟨rfl, rfl⟩))
  exact ⟨rfl, rfl, World.grownBy.refl w _⟩

theorem idx_of {s : ByteArray} {y : Nat} (h : y < s.size) : bt s y = (s[y]'h).toNat := by simp [bt, h]
def finO (r : Option Int) (to : Nat) : Res := match r with | some m => .ok m to | none => .err 5
theorem fin_finO (s : ByteArray) (M : Md) (i last : Nat) (n : Int) (to : Nat) : fin s M i last (.ok n to) = finO (back s M i (last - i) n) to := rfl
def R52 (s : ByteArray) (M : Md) (i last : Nat) (r : Option Int) (v5 v6 : Value) : Prop :=
  ∃ (k : Nat) (m x : Int), k ≤ last - i ∧ x = (i : Int) + (k : Int) - 1 ∧ v5 = .int .i64 m ∧ v6 = .int .i64 x ∧ within m = true ∧ back s M i k m = r
set_option maxRecDepth 100000 in
/-- 52: operand: the part behind the signs is read, then the signs are done, from the last one on. -/
theorem c52x (g : Nat) (s : ByteArray) (M : Md) (i deep : Nat) (w : World) (h : Rd w g s M i deep) (hs : s.size ≤ 100000) (hi : i ≤ s.size) (hd : deep ≤ 20) (hM : M.okay) (F : Nat) (hF : (F = 70 ∧ bt s (rn s deep i) = 40) ∨ (F = 58 ∧ ¬ bt s (rn s deep i) = 40)) (n : Int) (to : Nat) (hn : within n = true)
    (hB : ∀ w1, Moved w g s M (rn s deep i) deep w1 → Calls Tryd.prog F #[.pointer (some ⟨g, 0, none⟩)] w1 fun e w' => e = .returned (.int .i64 n) ∧ Moved w1 g s M to deep w') :
    Calls Tryd.prog 52 #[.pointer (some ⟨g, 0, none⟩)] w (CPost w g s M deep (fin s M i (rn s deep i) (.ok n to))) := by
  have hsz : s.size ≤ maxLen := by unfold maxLen; omega
  have h0 := h.c0
  have h1 := h.c1
  have hr := rn_ge s deep i
  have hrl := rn_le (deep := deep) hi
  have h69 := c69 g s M i deep w h hs hi hd
  rw [fin_finO]
  generalize hr0 : back s M i (rn s deep i - i) n = r
  have HR := Lib.hid hr0
  generalize rn s deep i = last at h69 hB hF HR hr hrl ⊢
  have H69 := Lib.hid h69
  have HB := Lib.hid hB
  clear h69 hB hr0
  rcases hF with ⟨rfl, hF⟩ | ⟨rfl, hF⟩
  · have hF' : ((bt s last : Int) == 40) = true := by simp; omega
    clear hF
    go_enter Tryd.func52, Tryd.ntmps52
    go_wp2_with (first
      | (go_at_call 69; refine H69.out.mono ?_; rintro e w1 ⟨rfl, hm1⟩; have g0 := hm1.1.c0; have g1 := hm1.1.c1)
      | (go_at_call 56; refine (c56 g s _ _ g0 hsz).mono ?_; rintro e w' ⟨rfl, rfl⟩)
      | (go_at_call 70; refine (HB.out _ hm1).mono ?_; rintro e w2 ⟨rfl, hm2⟩))
    have hm := hm1.trans hm2
    have k0 := hm2.1.c0
    have k6 := hm2.1.c6
    have k7 := hm2.1.c7
    clear hm1 hm2 g0 g1
    go_loop [5, 6] (fun v5 v6 => R52 s M i last r v5 v6) (fun _ v6 => (intOf v6 - (i : Int) + 1).toNat)
    case atStart => exact ⟨last - i, n, _, Nat.le_refl _, by omega, rfl, rfl, hn, HR.out⟩
    case round =>
      obtain ⟨k, m, x, hk, hx, rfl, rfl, hmw, hbk⟩ := hrel
      have HX := Lib.hid hx
      have HK := Lib.hid hbk
      clear hbk
      by_cases hk0 : k = 0
      · have hxi : x < (i : Int) := by omega
        subst hk0
        clear hx
        go_wp2_with fail
        go_ret
        have hrm : r = some m := HK.out.symm
        rw [hrm]
        exact ⟨rfl, hm⟩
      · obtain ⟨y, rfl⟩ : ∃ y : Nat, x = y := ⟨i + k - 1, by omega⟩
        have hyi : (i : Int) ≤ (y : Int) := by omega
        have hyl : y < s.size := by omega
        have hbt := idx_of hyl
        have hyk : y = i + (k - 1) := by omega
        have HT := Lib.hid hbt
        have HY := Lib.hid hyk
        have hb := within_iff.1 hmw
        clear hbt hyk hx
        have hstep : back s M i k m = (sg1 M (bt s y) m).bind (back s M i (k - 1)) := by
          have he : k = (k - 1) + 1 := by omega
          rw [he, back, HY.out]
          simp
        rcases hsg : sg1 M ((s[y]'hyl).toNat) m with _ | m'
        · have hrn : r = none := by rw [← HK.out, hstep, HT.out, hsg]; rfl
          have HS := Lib.hid hsg
          have HRN := Lib.hid hrn
          clear hsg hstep hrn
          go_wp2_with (go_at_call 57; refine (c57e g M _ m w2 k7 k6 hmw hM HS.out).mono ?_; rintro e w' ⟨rfl, rfl⟩)
          rw [HRN.out]
          exact ⟨rfl, rfl, hm.2⟩
        · have hrs : back s M i (k - 1) m' = r := by rw [← HK.out, hstep, HT.out, hsg]; rfl
          have HS := Lib.hid hsg
          have HRS := Lib.hid hrs
          have hmw' := sg1_within hsg hmw
          have HW := Lib.hid hmw'
          clear hsg hstep hrs hmw'
          go_wp2_with (go_at_call 57; refine (c57v g M _ m m' w2 k7 k6 hmw hM HS.out).mono ?_; rintro e w' ⟨rfl, rfl⟩)
          go_round
          case rel => exact ⟨k - 1, m', _, by omega, by have := HY.out; omega, rfl, rfl, HW.out, HRS.out⟩
          case measure => simp [intOf]; omega
  · have hF' : ((bt s last : Int) == 40) = false := by simp; omega
    clear hF
    go_enter Tryd.func52, Tryd.ntmps52
    go_wp2_with (first
      | (go_at_call 69; refine H69.out.mono ?_; rintro e w1 ⟨rfl, hm1⟩; have g0 := hm1.1.c0; have g1 := hm1.1.c1)
      | (go_at_call 56; refine (c56 g s _ _ g0 hsz).mono ?_; rintro e w' ⟨rfl, rfl⟩)
      | (go_at_call 58; refine (HB.out _ hm1).mono ?_; rintro e w2 ⟨rfl, hm2⟩))
    have hm := hm1.trans hm2
    have k0 := hm2.1.c0
    have k6 := hm2.1.c6
    have k7 := hm2.1.c7
    clear hm1 hm2 g0 g1
    go_loop [5, 6] (fun v5 v6 => R52 s M i last r v5 v6) (fun _ v6 => (intOf v6 - (i : Int) + 1).toNat)
    case atStart => exact ⟨last - i, n, _, Nat.le_refl _, by omega, rfl, rfl, hn, HR.out⟩
    case round =>
      obtain ⟨k, m, x, hk, hx, rfl, rfl, hmw, hbk⟩ := hrel
      have HX := Lib.hid hx
      have HK := Lib.hid hbk
      clear hbk
      by_cases hk0 : k = 0
      · have hxi : x < (i : Int) := by omega
        subst hk0
        clear hx
        go_wp2_with fail
        go_ret
        have hrm : r = some m := HK.out.symm
        rw [hrm]
        exact ⟨rfl, hm⟩
      · obtain ⟨y, rfl⟩ : ∃ y : Nat, x = y := ⟨i + k - 1, by omega⟩
        have hyi : (i : Int) ≤ (y : Int) := by omega
        have hyl : y < s.size := by omega
        have hbt := idx_of hyl
        have hyk : y = i + (k - 1) := by omega
        have HT := Lib.hid hbt
        have HY := Lib.hid hyk
        have hb := within_iff.1 hmw
        clear hbt hyk hx
        have hstep : back s M i k m = (sg1 M (bt s y) m).bind (back s M i (k - 1)) := by
          have he : k = (k - 1) + 1 := by omega
          rw [he, back, HY.out]
          simp
        rcases hsg : sg1 M ((s[y]'hyl).toNat) m with _ | m'
        · have hrn : r = none := by rw [← HK.out, hstep, HT.out, hsg]; rfl
          have HS := Lib.hid hsg
          have HRN := Lib.hid hrn
          clear hsg hstep hrn
          go_wp2_with (go_at_call 57; refine (c57e g M _ m w2 k7 k6 hmw hM HS.out).mono ?_; rintro e w' ⟨rfl, rfl⟩)
          rw [HRN.out]
          exact ⟨rfl, rfl, hm.2⟩
        · have hrs : back s M i (k - 1) m' = r := by rw [← HK.out, hstep, HT.out, hsg]; rfl
          have HS := Lib.hid hsg
          have HRS := Lib.hid hrs
          have hmw' := sg1_within hsg hmw
          have HW := Lib.hid hmw'
          clear hsg hstep hrs hmw'
          go_wp2_with (go_at_call 57; refine (c57v g M _ m m' w2 k7 k6 hmw hM HS.out).mono ?_; rintro e w' ⟨rfl, rfl⟩)
          go_round
          case rel => exact ⟨k - 1, m', _, by omega, by have := HY.out; omega, rfl, rfl, HW.out, HRS.out⟩
          case measure => simp [intOf]; omega

/-- 52: operand, its first part in error. -/
theorem c52e (g : Nat) (s : ByteArray) (M : Md) (i deep : Nat) (w : World) (h : Rd w g s M i deep) (hs : s.size ≤ 100000) (hi : i ≤ s.size) (hd : deep ≤ 20) (F : Nat) (hF : (F = 70 ∧ bt s (rn s deep i) = 40) ∨ (F = 58 ∧ ¬ bt s (rn s deep i) = 40)) (x : Nat)
    (hB : ∀ w1, Moved w g s M (rn s deep i) deep w1 → Calls Tryd.prog F #[.pointer (some ⟨g, 0, none⟩)] w1 fun e w' => e = thrown x ∧ w1.grownBy w' (some g)) :
    Calls Tryd.prog 52 #[.pointer (some ⟨g, 0, none⟩)] w (CPost w g s M deep (.err x)) := by
  have hsz : s.size ≤ maxLen := by unfold maxLen; omega
  have h0 := h.c0
  have h1 := h.c1
  have h69 := c69 g s M i deep w h hs hi hd
  generalize rn s deep i = last at h69 hB hF ⊢
  have H69 := Lib.hid h69
  have HB := Lib.hid hB
  clear h69 hB
  rcases hF with ⟨rfl, hF⟩ | ⟨rfl, hF⟩
  · have hF' : ((bt s last : Int) == 40) = true := by simp; omega
    clear hF
    go_enter Tryd.func52, Tryd.ntmps52
    go_wp2_with (first
      | (go_at_call 69; refine H69.out.mono ?_; rintro e w1 ⟨rfl, hm1⟩; have g0 := hm1.1.c0; have g1 := hm1.1.c1)
      | (go_at_call 56; refine (c56 g s _ _ g0 hsz).mono ?_; rintro e w' ⟨rfl, rfl⟩)
      | (go_at_call 70; refine (HB.out _ hm1).mono ?_; rintro e w2 ⟨rfl, hm2⟩))
    exact ⟨rfl, rfl, only_trans hm1.2 hm2⟩
  · have hF' : ((bt s last : Int) == 40) = false := by simp; omega
    clear hF
    go_enter Tryd.func52, Tryd.ntmps52
    go_wp2_with (first
      | (go_at_call 69; refine H69.out.mono ?_; rintro e w1 ⟨rfl, hm1⟩; have g0 := hm1.1.c0; have g1 := hm1.1.c1)
      | (go_at_call 56; refine (c56 g s _ _ g0 hsz).mono ?_; rintro e w' ⟨rfl, rfl⟩)
      | (go_at_call 58; refine (HB.out _ hm1).mono ?_; rintro e w2 ⟨rfl, hm2⟩))
    exact ⟨rfl, rfl, only_trans hm1.2 hm2⟩

/-- 58: number, whatever stands there. -/
theorem c58 (g : Nat) (s : ByteArray) (M : Md) (i deep : Nat) (w : World) (h : Rd w g s M i deep) (hs : s.size ≤ 100000) (hi : i ≤ s.size) (hM : M.okay) :
    Calls Tryd.prog 58 #[.pointer (some ⟨g, 0, none⟩)] w (CPost w g s M deep (numF s M i)) := by
  unfold numF
  by_cases h1 : dCount s i = 0 ∧ nPart s i = false
  · rw [if_pos h1]
    exact c58z g s M i deep w h hs hi h1.2 h1.1
  rw [if_neg h1]
  rcases hb : bdd M.fm (nVal s M i) with _ | n
  · by_cases h2 : nPart s i = true
    · exact c58bx g s M i deep w h hs hi hM h2 hb
    · have h2' : nPart s i = false := by simpa using h2
      exact c58ax g s M i deep w h hs hi hM h2' (fun h0 => h1 ⟨h0, h2'⟩) hb
  · by_cases h2 : nPart s i = true
    · exact c58b g s M i deep w h hs hi hM h2 n hb
    · have h2' : nPart s i = false := by simpa using h2
      exact c58a g s M i deep w h hs hi hM h2' (fun h0 => h1 ⟨h0, h2'⟩) n hb
/-- 52: operand, given what an expression within its bracket comes to. -/
theorem c52 (g : Nat) (hg : g ≠ 0) (s : ByteArray) (hs : s.size ≤ 100000) (M : Md) (hM : M.okay) (f : Nat) (i deep : Nat) (r : Res) (hi : i ≤ s.size) (hd : deep ≤ 20) (hev : ev s M (f + 1) (.opd i deep) = some r)
    (ih : ∀ i' r', ev s M f (.sum i' (deep + 1)) = some r' → i' ≤ s.size → deep < 20 → Sums g s M i' (deep + 1) r') : Opds g s M i deep r := by
  intro w h hO
  have hrl := rn_le (deep := deep) hi
  simp only [ev] at hev
  by_cases h1 : bt s (rn s deep i) = 40
  · have hlt : rn s deep i < s.size := bt_lt (by omega)
    rw [if_pos h1] at hev
    by_cases h2 : deep < 20
    · rw [if_pos h2] at hev
      rcases hsv : ev s M f (.sum (rn s deep i + 1) (deep + 1)) with _ | r1
      · rw [hsv] at hev; cases hev
      rw [hsv] at hev
      have hS := ih _ _ hsv (by omega) h2
      rcases r1 with ⟨n, to⟩ | x
      · have hok := ev_ok s M f _ n to hsv (by omega)
        simp only at hev
        by_cases h3 : bt s (skp s (deep + 1) to) = 41
        · rw [if_pos h3] at hev
          cases hev
          exact c52x g s M i deep w h hs hi hd hM 70 (.inl ⟨rfl, h1⟩) n _ hok.1 (fun w1 hm1 => c70a g s M _ deep w1 hm1.1 (hO.moved hg hm1) hg hs hlt h2 n to hok.2.2 hS h3)
        · rw [if_neg h3] at hev
          cases hev
          exact c52e g s M i deep w h hs hi hd 70 (.inl ⟨rfl, h1⟩) 4 (fun w1 hm1 => c70b g s M _ deep w1 hm1.1 (hO.moved hg hm1) hg hs hlt h2 n to hok.2.2 hS h3)
      · cases hev
        exact c52e g s M i deep w h hs hi hd 70 (.inl ⟨rfl, h1⟩) x (fun w1 hm1 => c70c g s M _ deep w1 hm1.1 (hO.moved hg hm1) hg hs hlt h2 x hS)
    · rw [if_neg h2] at hev
      cases hev
      exact c52e g s M i deep w h hs hi hd 70 (.inl ⟨rfl, h1⟩) 4 (fun w1 hm1 => c70d g s M _ deep w1 hm1.1 h2)
  · rw [if_neg h1] at hev
    rcases hnf : numF s M (rn s deep i) with ⟨n, to⟩ | x
    · rw [hnf] at hev
      cases hev
      have hok := numF_ok hnf hrl
      exact c52x g s M i deep w h hs hi hd hM 58 (.inr ⟨rfl, h1⟩) n to hok.1 (fun w1 hm1 => by
        have hc := c58 g s M _ deep w1 hm1.1 hs hrl hM
        rw [hnf] at hc
        exact hc)
    · rw [hnf] at hev
      cases hev
      exact c52e g s M i deep w h hs hi hd 58 (.inr ⟨rfl, h1⟩) x (fun w1 hm1 => by
        have hc := c58 g s M _ deep w1 hm1.1 hs hrl hM
        rw [hnf] at hc
        exact hc)
end Go.Proofs.YtonhglhdbpmnhaaDoor
