/- Walks of the document's own answers to layer 1: operators and their doing. -/
import Derived.Test.YtonhglhdbpmnhaaDoorNa
import Derived.Test.YtonhglhdbpmnhaaDoorMe
namespace Go.Proofs.YtonhglhdbpmnhaaDoor
open Go.RowKit

/-- 63: reckon. -/
def rkV (fm : Bool) (j : Nat) (a b : Int) : Value := match rk fm j a b with | .val n => .tuple #[.int .i64 n, .int .i64 0] | .bad e => .tuple #[.int .i64 0, .int .i64 e]
theorem n63cmp (j : Nat) (hj : j < 6 ∨ j = 11 ∨ j = 12) (a b : Int) (w : World) :
    Calls Tryd.prog 63 #[.string (opS j), .int .i64 a, .int .i64 b] w fun e w' => e = .returned (.tuple #[.int .i64 (ap j a b), .int .i64 0]) ∧ w = w' := by
  have hwt : ∀ b, Calls Tryd.prog 43 #[.int .i64 (truthI b)] w fun e w' => e = .returned (.bool true) ∧ w = w' := fun b => by
    have := n43 (truthI b) w
    rw [within_truth] at this; exact this
  have HWT := Lib.hid hwt
  clear hwt
  have h : j = 0 ∨ j = 1 ∨ j = 2 ∨ j = 3 ∨ j = 4 ∨ j = 5 ∨ j = 11 ∨ j = 12 := by omega
  rcases h with rfl | rfl | rfl | rfl | rfl | rfl | rfl | rfl
  all_goals
    simp only [opS, ap]
    go_enter Tryd.func63, Tryd.ntmps63
    go_wp2_with (first
      | (go_at_call 79; refine (n79 _ _).mono ?_; rintro e w' ⟨rfl, rfl⟩)
      | (go_at_call 43; refine (HWT.out _).mono ?_; rintro e w' ⟨rfl, rfl⟩))
    all_goals
      go_ret2
      first | exact ⟨rfl, rfl⟩ | (refine ⟨?_, rfl⟩; simp [*]; done) | (refine ⟨?_, rfl⟩; refine ret_ii (congrArg truthI ?_) rfl; simp; omega)
theorem n63s (j : Nat) (hj : j = 6 ∨ j = 7 ∨ j = 8) (a b : Int) (w : World) (ha : within a = true) (hb : within b = true) (hn : within (ap j a b) = true) :
    Calls Tryd.prog 63 #[.string (opS j), .int .i64 a, .int .i64 b] w fun e w' => e = .returned (.tuple #[.int .i64 (ap j a b), .int .i64 0]) ∧ w = w' := by
  have hm := mul_in ha hb
  have h1 := within_iff.1 ha
  have h2 := within_iff.1 hb
  rcases hj with rfl | rfl | rfl
  all_goals
    simp only [opS, ap] at hn ⊢
    go_enter Tryd.func63, Tryd.ntmps63
    go_wp2_with (go_at_call 43; refine (n43 _ _).mono ?_; rintro e w' ⟨rfl, rfl⟩)
    go_ret2
    exact ⟨rfl, rfl⟩
theorem n63x (j : Nat) (hj : j = 6 ∨ j = 7 ∨ j = 8) (a b : Int) (w : World) (ha : within a = true) (hb : within b = true) (hn : within (ap j a b) = false) :
    Calls Tryd.prog 63 #[.string (opS j), .int .i64 a, .int .i64 b] w fun e w' => e = .returned (.tuple #[.int .i64 0, .int .i64 5]) ∧ w = w' := by
  have hm := mul_in ha hb
  have h1 := within_iff.1 ha
  have h2 := within_iff.1 hb
  rcases hj with rfl | rfl | rfl
  all_goals
    simp only [opS, ap] at hn ⊢
    go_enter Tryd.func63, Tryd.ntmps63
    go_wp2_with (go_at_call 43; refine (n43 _ _).mono ?_; rintro e w' ⟨rfl, rfl⟩)
    go_ret2
    exact ⟨rfl, rfl⟩
theorem n63d (j : Nat) (hj : j = 9 ∨ j = 10) (a b : Int) (w : World) (ha : within a = true) (hz : ¬ b = 0) :
    Calls Tryd.prog 63 #[.string (opS j), .int .i64 a, .int .i64 b] w fun e w' => e = .returned (.tuple #[.int .i64 (ap j a b), .int .i64 0]) ∧ w = w' := by
  have hm := tdiv_in b ha
  have hm2 := tmod_in b ha
  have k1 : within (a.tdiv b) = true := within_iff.2 hm
  have k2 : within (a.tmod b) = true := within_iff.2 hm2
  have e1 : wrap64 (a.tdiv b) = a.tdiv b := IntWalk.wrap64_in _ (by omega)
  have e2 : wrap64 (a.tmod b) = a.tmod b := IntWalk.wrap64_in _ (by omega)
  rcases hj with rfl | rfl
  all_goals
    simp only [opS, ap]
    go_enter Tryd.func63, Tryd.ntmps63
    go_wp2_with (go_at_call 43; refine (n43 _ _).mono ?_; rintro e w' ⟨rfl, rfl⟩)
    all_goals
      go_ret2
      exact ⟨rfl, rfl⟩
theorem n63z (j : Nat) (hj : j = 9 ∨ j = 10) (a : Int) (w : World) :
    Calls Tryd.prog 63 #[.string (opS j), .int .i64 a, .int .i64 0] w fun e w' => e = .returned (.tuple #[.int .i64 0, .int .i64 11]) ∧ w = w' := by
  rcases hj with rfl | rfl
  all_goals
    simp only [opS]
    go_enter Tryd.func63, Tryd.ntmps63
    go_wp2
    go_ret2
    exact ⟨rfl, rfl⟩
theorem n63 (j : Nat) (hj : j < 13) (a b : Int) (w : World) (ha : within a = true) (hb : within b = true) :
    Calls Tryd.prog 63 #[.string (opS j), .int .i64 a, .int .i64 b] w fun e w' => e = .returned (rkV false j a b) ∧ w = w' := by
  unfold rkV rk
  rw [if_neg (by decide)]
  by_cases h1 : (j = 9 ∨ j = 10) ∧ b = 0
  · rw [if_pos h1]
    obtain ⟨h1, rfl⟩ := h1
    exact n63z j h1 a w
  rw [if_neg h1]
  by_cases h2 : within (ap j a b) = true
  · rw [if_pos h2]
    by_cases h3 : j = 9 ∨ j = 10
    · exact n63d j h3 a b w ha (fun h => h1 ⟨h3, h⟩)
    · by_cases h4 : j = 6 ∨ j = 7 ∨ j = 8
      · exact n63s j h4 a b w ha hb h2
      · exact n63cmp j (by omega) a b w
  · rw [if_neg h2]
    have h2' : within (ap j a b) = false := by simpa using h2
    by_cases h3 : j = 9 ∨ j = 10
    · exfalso
      rcases h3 with rfl | rfl
      · exact h2 (within_iff.2 (tdiv_in b ha))
      · exact h2 (within_iff.2 (tmod_in b ha))
    · by_cases h4 : j = 6 ∨ j = 7 ∨ j = 8
      · exact n63x j h4 a b w ha hb h2'
      · exact absurd (within_cmp (by omega) a b) h2

/-- 61: operator: what its tests say. -/
theorem ba_eq {b : ByteArray} {l : List UInt8} (h : b.toList = l) : b = ⟨l.toArray⟩ := by
  rw [Lib.toList_data] at h
  cases b with
  | mk d => simp at h; rw [← h]
theorem ex2 {s : ByteArray} {p : Nat} (h : p + 1 < s.size) : (s.extract p (p + 2)).toList = [s[p]'(by omega), s[p + 1]'h] := by
  rw [Lib.toList_data, Lib.extract_data]
  have h1 : p < s.data.toList.length := by simpa using (show p < s.size by omega)
  have h2 : p + 1 < s.data.toList.length := by simpa using h
  rw [List.drop_eq_getElem_cons h1, List.drop_eq_getElem_cons h2, show p + 2 - p = 2 by omega]
  rfl
theorem ex1 {s : ByteArray} {p : Nat} (h : p < s.size) : (s.extract p (p + 1)).toList = [s[p]'h] := by
  rw [Lib.toList_data, Lib.extract_data]
  have h1 : p < s.data.toList.length := by simpa using h
  rw [List.drop_eq_getElem_cons h1, show p + 1 - p = 1 by omega]
  rfl
theorem bt_get {s : ByteArray} {p : Nat} (h : p < s.size) : bt s p = (s[p]'h).toNat := by simp [bt, h]
theorem two_iff {s : ByteArray} {p : Nat} (h : p + 1 < s.size) (a b : UInt8) : (s.extract p (p + 2)).toList = [a, b] ↔ bt s p = a.toNat ∧ bt s (p + 1) = b.toNat := by
  rw [ex2 h, bt_get (by omega : p < s.size), bt_get h]
  simp only [List.cons.injEq, and_true, UInt8.toNat_inj]
theorem one_iff {s : ByteArray} {p : Nat} (h : p < s.size) (a : UInt8) : ([a] == (s.extract p (p + 1)).toList) = true ↔ bt s p = a.toNat := by
  rw [ex1 h, bt_get h]
  simp only [beq_iff_eq, List.cons.injEq, and_true]
  exact ⟨fun e => by rw [e], fun e => (UInt8.toNat_inj.1 e).symm⟩
def N2 (s : ByteArray) (p : Nat) : Prop := ¬ (bt s (p + 1) = 61 ∧ (bt s p = 60 ∨ bt s p = 62 ∨ bt s p = 61))
theorem n2_of {s : ByteArray} {p : Nat} (h : p + 1 < s.size) (hN : (((s.extract p (p + 2)).toList == [60, 61]) = false ∧ ((s.extract p (p + 2)).toList == [62, 61]) = false) ∧ ((s.extract p (p + 2)).toList == [61, 61]) = false) : N2 s p := by
  obtain ⟨⟨h1, h2⟩, h3⟩ := hN
  have g1 : ¬ (bt s p = 60 ∧ bt s (p + 1) = 61) := fun e => by rw [(two_iff h 60 61).2 e] at h1; simp at h1
  have g2 : ¬ (bt s p = 62 ∧ bt s (p + 1) = 61) := fun e => by rw [(two_iff h 62 61).2 e] at h2; simp at h2
  have g3 : ¬ (bt s p = 61 ∧ bt s (p + 1) = 61) := fun e => by rw [(two_iff h 61 61).2 e] at h3; simp at h3
  unfold N2; omega
theorem n2_last {s : ByteArray} {p : Nat} (h : ¬ p + 1 < s.size) : N2 s p := by
  have : bt s (p + 1) = 0 := by simp [bt, h]
  unfold N2; omega
theorem op2 {s : ByteArray} {p j : Nat} (h : (j = 0 ∧ bt s p = 60 ∨ j = 1 ∧ bt s p = 62 ∨ j = 2 ∧ bt s p = 61) ∧ bt s (p + 1) = 61) : opIx s p = j := by
  obtain ⟨h1, h2⟩ := h
  unfold opIx
  rw [h2]
  rcases h1 with ⟨rfl, h1⟩ | ⟨rfl, h1⟩ | ⟨rfl, h1⟩ <;> rw [h1] <;> decide
theorem op1 {s : ByteArray} {p j c : Nat} (hn : N2 s p) (hc : bt s p = c) (h : j = 6 ∧ c = 43 ∨ j = 7 ∧ c = 45 ∨ j = 8 ∧ c = 42 ∨ j = 9 ∧ c = 47 ∨ j = 10 ∧ c = 37 ∨ j = 3 ∧ c = 60 ∨ j = 4 ∧ c = 62 ∨ j = 5 ∧ c = 61 ∨ j = 11 ∧ c = 38 ∨ j = 12 ∧ c = 58) : opIx s p = j := by
  unfold opIx
  unfold N2 at hn
  rw [hc] at hn ⊢
  have hlt := opFor_le c (bt s (p + 1))
  refine opFor_eq (by omega) (fun i hi => ?_) (.inl ?_)
  · rcases h with ⟨rfl, rfl⟩ | ⟨rfl, rfl⟩ | ⟨rfl, rfl⟩ | ⟨rfl, rfl⟩ | ⟨rfl, rfl⟩ | ⟨rfl, rfl⟩ | ⟨rfl, rfl⟩ | ⟨rfl, rfl⟩ | ⟨rfl, rfl⟩ | ⟨rfl, rfl⟩ <;> unfold opHit <;> split <;> simp <;> omega
  · rcases h with ⟨rfl, rfl⟩ | ⟨rfl, rfl⟩ | ⟨rfl, rfl⟩ | ⟨rfl, rfl⟩ | ⟨rfl, rfl⟩ | ⟨rfl, rfl⟩ | ⟨rfl, rfl⟩ | ⟨rfl, rfl⟩ | ⟨rfl, rfl⟩ | ⟨rfl, rfl⟩ <;> rfl
theorem op0 {s : ByteArray} {p : Nat} (h : bt s p ≠ 43 ∧ bt s p ≠ 45 ∧ bt s p ≠ 42 ∧ bt s p ≠ 47 ∧ bt s p ≠ 37 ∧ bt s p ≠ 60 ∧ bt s p ≠ 62 ∧ bt s p ≠ 61 ∧ bt s p ≠ 38 ∧ bt s p ≠ 58) : opIx s p = 13 := by
  unfold opIx
  refine opFor_eq (by omega) (fun i hi => ?_) (.inr rfl)
  unfold opHit
  split <;> simp <;> omega
theorem lit0 : (({ data := #[43, 45, 42, 47, 37, 60, 62, 61, 38, 58] } : ByteArray).extract 0 1).toList = [43] := by rw [Lib.toList_data]; rfl
theorem lit1 : (({ data := #[43, 45, 42, 47, 37, 60, 62, 61, 38, 58] } : ByteArray).extract 1 2).toList = [45] := by rw [Lib.toList_data]; rfl
theorem lit2 : (({ data := #[43, 45, 42, 47, 37, 60, 62, 61, 38, 58] } : ByteArray).extract 2 3).toList = [42] := by rw [Lib.toList_data]; rfl
theorem lit3 : (({ data := #[43, 45, 42, 47, 37, 60, 62, 61, 38, 58] } : ByteArray).extract 3 4).toList = [47] := by rw [Lib.toList_data]; rfl
theorem lit4 : (({ data := #[43, 45, 42, 47, 37, 60, 62, 61, 38, 58] } : ByteArray).extract 4 5).toList = [37] := by rw [Lib.toList_data]; rfl
theorem lit5 : (({ data := #[43, 45, 42, 47, 37, 60, 62, 61, 38, 58] } : ByteArray).extract 5 6).toList = [60] := by rw [Lib.toList_data]; rfl
theorem lit6 : (({ data := #[43, 45, 42, 47, 37, 60, 62, 61, 38, 58] } : ByteArray).extract 6 7).toList = [62] := by rw [Lib.toList_data]; rfl
theorem lit7 : (({ data := #[43, 45, 42, 47, 37, 60, 62, 61, 38, 58] } : ByteArray).extract 7 8).toList = [61] := by rw [Lib.toList_data]; rfl
theorem lit8 : (({ data := #[43, 45, 42, 47, 37, 60, 62, 61, 38, 58] } : ByteArray).extract 8 9).toList = [38] := by rw [Lib.toList_data]; rfl
theorem lit9 : (({ data := #[43, 45, 42, 47, 37, 60, 62, 61, 38, 58] } : ByteArray).extract 9 10).toList = [58] := by rw [Lib.toList_data]; rfl
/-- 61: operator. -/
theorem n61end {s : ByteArray} {p j : Nat} {x : ByteArray} (h : opIx s p = j) (hx : x = opS j) {n : Int} (hn : n = ((p + (opS j).size : Nat) : Int)) :
    Ending.returned (.tuple #[.string x, .int .i64 n]) = .returned (.tuple #[.string (opS (opIx s p)), .int .i64 ((p + (opS (opIx s p)).size : Nat))]) := by
  rw [h, hx, hn]
set_option maxHeartbeats 800000 in
theorem n61 (s : ByteArray) (sc : Nat) (sz vs here : Int) (fm : Bool) (p : Nat) (w : World) (hs : s.size ≤ 100000) (hp : p ≤ s.size) :
    Calls Tryd.prog 61 #[rdr s sc sz vs here fm, .int .i64 p] w fun e w' => e = .returned (.tuple #[.string (opS (opIx s p)), .int .i64 ((p + (opS (opIx s p)).size : Nat))]) ∧ Below w.heap.size w w' := by
  unfold rdr
  by_cases h1 : p + 1 < s.size
  · have hlt : p < s.size := by omega
    go_enter Tryd.func61, Tryd.ntmps61
    go_wp2
    · have hx0 : (s.extract p (p + 2)).toList = [60, 61] := by assumption
      have hb := (two_iff h1 60 61).1 hx0
      have hj : opIx s p = 0 := op2 ⟨by simp at hb; omega, by simp at hb; omega⟩
      go_ret2
      exact ⟨n61end hj (ba_eq hx0) (by simp [opS]; try rfl), (Below.refl _ _).alloc (Nat.le_refl _) _⟩
    · have hx0 : (s.extract p (p + 2)).toList = [62, 61] := by assumption
      have hb := (two_iff h1 62 61).1 hx0
      have hj : opIx s p = 1 := op2 ⟨by simp at hb; omega, by simp at hb; omega⟩
      go_ret2
      exact ⟨n61end hj (ba_eq hx0) (by simp [opS]; try rfl), (Below.refl _ _).alloc (Nat.le_refl _) _⟩
    · have hx0 : (s.extract p (p + 2)).toList = [61, 61] := by
        have h3 : (((s.extract p (p + 2)).toList == [60, 61]) = true ∨ ((s.extract p (p + 2)).toList == [62, 61]) = true) ∨ ((s.extract p (p + 2)).toList == [61, 61]) = true := by assumption
        have g1 : ¬ (s.extract p (p + 2)).toList = [60, 61] := by assumption
        have g2 : ¬ (s.extract p (p + 2)).toList = [62, 61] := by assumption
        rcases h3 with (h3 | h3) | h3
        · exact absurd (beq_iff_eq.1 h3) g1
        · exact absurd (beq_iff_eq.1 h3) g2
        · exact beq_iff_eq.1 h3
      have hb := (two_iff h1 61 61).1 hx0
      have hj : opIx s p = 2 := op2 ⟨by simp at hb; omega, by simp at hb; omega⟩
      go_ret2
      exact ⟨n61end hj (ba_eq hx0) (by simp [opS]; try rfl), (Below.refl _ _).alloc (Nat.le_refl _) _⟩
    · have hN : (((s.extract p (p + 2)).toList == [60, 61]) = false ∧ ((s.extract p (p + 2)).toList == [62, 61]) = false) ∧ ((s.extract p (p + 2)).toList == [61, 61]) = false := by assumption
      have HN := n2_of h1 hN
      go_rounds 11
      · have hk : ((({ data := #[43, 45, 42, 47, 37, 60, 62, 61, 38, 58] } : ByteArray).extract 0 1).toList == (s.extract p (p + 1)).toList) = true := by assumption
        rw [lit0] at hk
        have hb : bt s p = 43 := (one_iff hlt 43).1 hk
        have hj : opIx s p = 6 := op1 HN hb (by omega)
        have hx : s.extract p (p + 1) = opS 6 := ba_eq (beq_iff_eq.1 hk).symm
        go_ret2
        exact ⟨n61end hj hx (by simp [opS]; try rfl), (Below.refl _ _).alloc (Nat.le_refl _) _⟩
      · have hk : ((({ data := #[43, 45, 42, 47, 37, 60, 62, 61, 38, 58] } : ByteArray).extract 1 2).toList == (s.extract p (p + 1)).toList) = true := by assumption
        rw [lit1] at hk
        have hb : bt s p = 45 := (one_iff hlt 45).1 hk
        have hj : opIx s p = 7 := op1 HN hb (by omega)
        have hx : s.extract p (p + 1) = opS 7 := ba_eq (beq_iff_eq.1 hk).symm
        go_ret2
        exact ⟨n61end hj hx (by simp [opS]; try rfl), (Below.refl _ _).alloc (Nat.le_refl _) _⟩
      · have hk : ((({ data := #[43, 45, 42, 47, 37, 60, 62, 61, 38, 58] } : ByteArray).extract 2 3).toList == (s.extract p (p + 1)).toList) = true := by assumption
        rw [lit2] at hk
        have hb : bt s p = 42 := (one_iff hlt 42).1 hk
        have hj : opIx s p = 8 := op1 HN hb (by omega)
        have hx : s.extract p (p + 1) = opS 8 := ba_eq (beq_iff_eq.1 hk).symm
        go_ret2
        exact ⟨n61end hj hx (by simp [opS]; try rfl), (Below.refl _ _).alloc (Nat.le_refl _) _⟩
      · have hk : ((({ data := #[43, 45, 42, 47, 37, 60, 62, 61, 38, 58] } : ByteArray).extract 3 4).toList == (s.extract p (p + 1)).toList) = true := by assumption
        rw [lit3] at hk
        have hb : bt s p = 47 := (one_iff hlt 47).1 hk
        have hj : opIx s p = 9 := op1 HN hb (by omega)
        have hx : s.extract p (p + 1) = opS 9 := ba_eq (beq_iff_eq.1 hk).symm
        go_ret2
        exact ⟨n61end hj hx (by simp [opS]; try rfl), (Below.refl _ _).alloc (Nat.le_refl _) _⟩
      · have hk : ((({ data := #[43, 45, 42, 47, 37, 60, 62, 61, 38, 58] } : ByteArray).extract 4 5).toList == (s.extract p (p + 1)).toList) = true := by assumption
        rw [lit4] at hk
        have hb : bt s p = 37 := (one_iff hlt 37).1 hk
        have hj : opIx s p = 10 := op1 HN hb (by omega)
        have hx : s.extract p (p + 1) = opS 10 := ba_eq (beq_iff_eq.1 hk).symm
        go_ret2
        exact ⟨n61end hj hx (by simp [opS]; try rfl), (Below.refl _ _).alloc (Nat.le_refl _) _⟩
      · have hk : ((({ data := #[43, 45, 42, 47, 37, 60, 62, 61, 38, 58] } : ByteArray).extract 5 6).toList == (s.extract p (p + 1)).toList) = true := by assumption
        rw [lit5] at hk
        have hb : bt s p = 60 := (one_iff hlt 60).1 hk
        have hj : opIx s p = 3 := op1 HN hb (by omega)
        have hx : s.extract p (p + 1) = opS 3 := ba_eq (beq_iff_eq.1 hk).symm
        go_ret2
        exact ⟨n61end hj hx (by simp [opS]; try rfl), (Below.refl _ _).alloc (Nat.le_refl _) _⟩
      · have hk : ((({ data := #[43, 45, 42, 47, 37, 60, 62, 61, 38, 58] } : ByteArray).extract 6 7).toList == (s.extract p (p + 1)).toList) = true := by assumption
        rw [lit6] at hk
        have hb : bt s p = 62 := (one_iff hlt 62).1 hk
        have hj : opIx s p = 4 := op1 HN hb (by omega)
        have hx : s.extract p (p + 1) = opS 4 := ba_eq (beq_iff_eq.1 hk).symm
        go_ret2
        exact ⟨n61end hj hx (by simp [opS]; try rfl), (Below.refl _ _).alloc (Nat.le_refl _) _⟩
      · have hk : ((({ data := #[43, 45, 42, 47, 37, 60, 62, 61, 38, 58] } : ByteArray).extract 7 8).toList == (s.extract p (p + 1)).toList) = true := by assumption
        rw [lit7] at hk
        have hb : bt s p = 61 := (one_iff hlt 61).1 hk
        have hj : opIx s p = 5 := op1 HN hb (by omega)
        have hx : s.extract p (p + 1) = opS 5 := ba_eq (beq_iff_eq.1 hk).symm
        go_ret2
        exact ⟨n61end hj hx (by simp [opS]; try rfl), (Below.refl _ _).alloc (Nat.le_refl _) _⟩
      · have hk : ((({ data := #[43, 45, 42, 47, 37, 60, 62, 61, 38, 58] } : ByteArray).extract 8 9).toList == (s.extract p (p + 1)).toList) = true := by assumption
        rw [lit8] at hk
        have hb : bt s p = 38 := (one_iff hlt 38).1 hk
        have hj : opIx s p = 11 := op1 HN hb (by omega)
        have hx : s.extract p (p + 1) = opS 11 := ba_eq (beq_iff_eq.1 hk).symm
        go_ret2
        exact ⟨n61end hj hx (by simp [opS]; try rfl), (Below.refl _ _).alloc (Nat.le_refl _) _⟩
      · have hk : ((({ data := #[43, 45, 42, 47, 37, 60, 62, 61, 38, 58] } : ByteArray).extract 9 10).toList == (s.extract p (p + 1)).toList) = true := by assumption
        rw [lit9] at hk
        have hb : bt s p = 58 := (one_iff hlt 58).1 hk
        have hj : opIx s p = 12 := op1 HN hb (by omega)
        have hx : s.extract p (p + 1) = opS 12 := ba_eq (beq_iff_eq.1 hk).symm
        go_ret2
        exact ⟨n61end hj hx (by simp [opS]; try rfl), (Below.refl _ _).alloc (Nat.le_refl _) _⟩
      · have hj : opIx s p = 13 := op0 (by
          have h0 : ((({ data := #[43, 45, 42, 47, 37, 60, 62, 61, 38, 58] } : ByteArray).extract 0 1).toList == (s.extract p (p + 1)).toList) = false := by assumption
          rw [lit0] at h0
          have g0 : bt s p ≠ 43 := fun e => by rw [(one_iff hlt 43).2 e] at h0; cases h0
          have h1 : ((({ data := #[43, 45, 42, 47, 37, 60, 62, 61, 38, 58] } : ByteArray).extract 1 2).toList == (s.extract p (p + 1)).toList) = false := by assumption
          rw [lit1] at h1
          have g1 : bt s p ≠ 45 := fun e => by rw [(one_iff hlt 45).2 e] at h1; cases h1
          have h2 : ((({ data := #[43, 45, 42, 47, 37, 60, 62, 61, 38, 58] } : ByteArray).extract 2 3).toList == (s.extract p (p + 1)).toList) = false := by assumption
          rw [lit2] at h2
          have g2 : bt s p ≠ 42 := fun e => by rw [(one_iff hlt 42).2 e] at h2; cases h2
          have h3 : ((({ data := #[43, 45, 42, 47, 37, 60, 62, 61, 38, 58] } : ByteArray).extract 3 4).toList == (s.extract p (p + 1)).toList) = false := by assumption
          rw [lit3] at h3
          have g3 : bt s p ≠ 47 := fun e => by rw [(one_iff hlt 47).2 e] at h3; cases h3
          have h4 : ((({ data := #[43, 45, 42, 47, 37, 60, 62, 61, 38, 58] } : ByteArray).extract 4 5).toList == (s.extract p (p + 1)).toList) = false := by assumption
          rw [lit4] at h4
          have g4 : bt s p ≠ 37 := fun e => by rw [(one_iff hlt 37).2 e] at h4; cases h4
          have h5 : ((({ data := #[43, 45, 42, 47, 37, 60, 62, 61, 38, 58] } : ByteArray).extract 5 6).toList == (s.extract p (p + 1)).toList) = false := by assumption
          rw [lit5] at h5
          have g5 : bt s p ≠ 60 := fun e => by rw [(one_iff hlt 60).2 e] at h5; cases h5
          have h6 : ((({ data := #[43, 45, 42, 47, 37, 60, 62, 61, 38, 58] } : ByteArray).extract 6 7).toList == (s.extract p (p + 1)).toList) = false := by assumption
          rw [lit6] at h6
          have g6 : bt s p ≠ 62 := fun e => by rw [(one_iff hlt 62).2 e] at h6; cases h6
          have h7 : ((({ data := #[43, 45, 42, 47, 37, 60, 62, 61, 38, 58] } : ByteArray).extract 7 8).toList == (s.extract p (p + 1)).toList) = false := by assumption
          rw [lit7] at h7
          have g7 : bt s p ≠ 61 := fun e => by rw [(one_iff hlt 61).2 e] at h7; cases h7
          have h8 : ((({ data := #[43, 45, 42, 47, 37, 60, 62, 61, 38, 58] } : ByteArray).extract 8 9).toList == (s.extract p (p + 1)).toList) = false := by assumption
          rw [lit8] at h8
          have g8 : bt s p ≠ 38 := fun e => by rw [(one_iff hlt 38).2 e] at h8; cases h8
          have h9 : ((({ data := #[43, 45, 42, 47, 37, 60, 62, 61, 38, 58] } : ByteArray).extract 9 10).toList == (s.extract p (p + 1)).toList) = false := by assumption
          rw [lit9] at h9
          have g9 : bt s p ≠ 58 := fun e => by rw [(one_iff hlt 58).2 e] at h9; cases h9
          exact ⟨g0, g1, g2, g3, g4, g5, g6, g7, g8, g9⟩)
        go_ret2
        exact ⟨n61end hj rfl (show (p : Int) = ((p + (opS 13).size : Nat) : Int) from rfl), (Below.refl _ _).alloc (Nat.le_refl _) _⟩
  · by_cases hlt : p < s.size
    · have HN := n2_last h1
      go_enter Tryd.func61, Tryd.ntmps61
      go_wp2
      go_rounds 11
      · have hk : ((({ data := #[43, 45, 42, 47, 37, 60, 62, 61, 38, 58] } : ByteArray).extract 0 1).toList == (s.extract p (p + 1)).toList) = true := by assumption
        rw [lit0] at hk
        have hb : bt s p = 43 := (one_iff hlt 43).1 hk
        have hj : opIx s p = 6 := op1 HN hb (by omega)
        have hx : s.extract p (p + 1) = opS 6 := ba_eq (beq_iff_eq.1 hk).symm
        go_ret2
        exact ⟨n61end hj hx (by simp [opS]; try rfl), (Below.refl _ _).alloc (Nat.le_refl _) _⟩
      · have hk : ((({ data := #[43, 45, 42, 47, 37, 60, 62, 61, 38, 58] } : ByteArray).extract 1 2).toList == (s.extract p (p + 1)).toList) = true := by assumption
        rw [lit1] at hk
        have hb : bt s p = 45 := (one_iff hlt 45).1 hk
        have hj : opIx s p = 7 := op1 HN hb (by omega)
        have hx : s.extract p (p + 1) = opS 7 := ba_eq (beq_iff_eq.1 hk).symm
        go_ret2
        exact ⟨n61end hj hx (by simp [opS]; try rfl), (Below.refl _ _).alloc (Nat.le_refl _) _⟩
      · have hk : ((({ data := #[43, 45, 42, 47, 37, 60, 62, 61, 38, 58] } : ByteArray).extract 2 3).toList == (s.extract p (p + 1)).toList) = true := by assumption
        rw [lit2] at hk
        have hb : bt s p = 42 := (one_iff hlt 42).1 hk
        have hj : opIx s p = 8 := op1 HN hb (by omega)
        have hx : s.extract p (p + 1) = opS 8 := ba_eq (beq_iff_eq.1 hk).symm
        go_ret2
        exact ⟨n61end hj hx (by simp [opS]; try rfl), (Below.refl _ _).alloc (Nat.le_refl _) _⟩
      · have hk : ((({ data := #[43, 45, 42, 47, 37, 60, 62, 61, 38, 58] } : ByteArray).extract 3 4).toList == (s.extract p (p + 1)).toList) = true := by assumption
        rw [lit3] at hk
        have hb : bt s p = 47 := (one_iff hlt 47).1 hk
        have hj : opIx s p = 9 := op1 HN hb (by omega)
        have hx : s.extract p (p + 1) = opS 9 := ba_eq (beq_iff_eq.1 hk).symm
        go_ret2
        exact ⟨n61end hj hx (by simp [opS]; try rfl), (Below.refl _ _).alloc (Nat.le_refl _) _⟩
      · have hk : ((({ data := #[43, 45, 42, 47, 37, 60, 62, 61, 38, 58] } : ByteArray).extract 4 5).toList == (s.extract p (p + 1)).toList) = true := by assumption
        rw [lit4] at hk
        have hb : bt s p = 37 := (one_iff hlt 37).1 hk
        have hj : opIx s p = 10 := op1 HN hb (by omega)
        have hx : s.extract p (p + 1) = opS 10 := ba_eq (beq_iff_eq.1 hk).symm
        go_ret2
        exact ⟨n61end hj hx (by simp [opS]; try rfl), (Below.refl _ _).alloc (Nat.le_refl _) _⟩
      · have hk : ((({ data := #[43, 45, 42, 47, 37, 60, 62, 61, 38, 58] } : ByteArray).extract 5 6).toList == (s.extract p (p + 1)).toList) = true := by assumption
        rw [lit5] at hk
        have hb : bt s p = 60 := (one_iff hlt 60).1 hk
        have hj : opIx s p = 3 := op1 HN hb (by omega)
        have hx : s.extract p (p + 1) = opS 3 := ba_eq (beq_iff_eq.1 hk).symm
        go_ret2
        exact ⟨n61end hj hx (by simp [opS]; try rfl), (Below.refl _ _).alloc (Nat.le_refl _) _⟩
      · have hk : ((({ data := #[43, 45, 42, 47, 37, 60, 62, 61, 38, 58] } : ByteArray).extract 6 7).toList == (s.extract p (p + 1)).toList) = true := by assumption
        rw [lit6] at hk
        have hb : bt s p = 62 := (one_iff hlt 62).1 hk
        have hj : opIx s p = 4 := op1 HN hb (by omega)
        have hx : s.extract p (p + 1) = opS 4 := ba_eq (beq_iff_eq.1 hk).symm
        go_ret2
        exact ⟨n61end hj hx (by simp [opS]; try rfl), (Below.refl _ _).alloc (Nat.le_refl _) _⟩
      · have hk : ((({ data := #[43, 45, 42, 47, 37, 60, 62, 61, 38, 58] } : ByteArray).extract 7 8).toList == (s.extract p (p + 1)).toList) = true := by assumption
        rw [lit7] at hk
        have hb : bt s p = 61 := (one_iff hlt 61).1 hk
        have hj : opIx s p = 5 := op1 HN hb (by omega)
        have hx : s.extract p (p + 1) = opS 5 := ba_eq (beq_iff_eq.1 hk).symm
        go_ret2
        exact ⟨n61end hj hx (by simp [opS]; try rfl), (Below.refl _ _).alloc (Nat.le_refl _) _⟩
      · have hk : ((({ data := #[43, 45, 42, 47, 37, 60, 62, 61, 38, 58] } : ByteArray).extract 8 9).toList == (s.extract p (p + 1)).toList) = true := by assumption
        rw [lit8] at hk
        have hb : bt s p = 38 := (one_iff hlt 38).1 hk
        have hj : opIx s p = 11 := op1 HN hb (by omega)
        have hx : s.extract p (p + 1) = opS 11 := ba_eq (beq_iff_eq.1 hk).symm
        go_ret2
        exact ⟨n61end hj hx (by simp [opS]; try rfl), (Below.refl _ _).alloc (Nat.le_refl _) _⟩
      · have hk : ((({ data := #[43, 45, 42, 47, 37, 60, 62, 61, 38, 58] } : ByteArray).extract 9 10).toList == (s.extract p (p + 1)).toList) = true := by assumption
        rw [lit9] at hk
        have hb : bt s p = 58 := (one_iff hlt 58).1 hk
        have hj : opIx s p = 12 := op1 HN hb (by omega)
        have hx : s.extract p (p + 1) = opS 12 := ba_eq (beq_iff_eq.1 hk).symm
        go_ret2
        exact ⟨n61end hj hx (by simp [opS]; try rfl), (Below.refl _ _).alloc (Nat.le_refl _) _⟩
      · have hj : opIx s p = 13 := op0 (by
          have h0 : ((({ data := #[43, 45, 42, 47, 37, 60, 62, 61, 38, 58] } : ByteArray).extract 0 1).toList == (s.extract p (p + 1)).toList) = false := by assumption
          rw [lit0] at h0
          have g0 : bt s p ≠ 43 := fun e => by rw [(one_iff hlt 43).2 e] at h0; cases h0
          have h1 : ((({ data := #[43, 45, 42, 47, 37, 60, 62, 61, 38, 58] } : ByteArray).extract 1 2).toList == (s.extract p (p + 1)).toList) = false := by assumption
          rw [lit1] at h1
          have g1 : bt s p ≠ 45 := fun e => by rw [(one_iff hlt 45).2 e] at h1; cases h1
          have h2 : ((({ data := #[43, 45, 42, 47, 37, 60, 62, 61, 38, 58] } : ByteArray).extract 2 3).toList == (s.extract p (p + 1)).toList) = false := by assumption
          rw [lit2] at h2
          have g2 : bt s p ≠ 42 := fun e => by rw [(one_iff hlt 42).2 e] at h2; cases h2
          have h3 : ((({ data := #[43, 45, 42, 47, 37, 60, 62, 61, 38, 58] } : ByteArray).extract 3 4).toList == (s.extract p (p + 1)).toList) = false := by assumption
          rw [lit3] at h3
          have g3 : bt s p ≠ 47 := fun e => by rw [(one_iff hlt 47).2 e] at h3; cases h3
          have h4 : ((({ data := #[43, 45, 42, 47, 37, 60, 62, 61, 38, 58] } : ByteArray).extract 4 5).toList == (s.extract p (p + 1)).toList) = false := by assumption
          rw [lit4] at h4
          have g4 : bt s p ≠ 37 := fun e => by rw [(one_iff hlt 37).2 e] at h4; cases h4
          have h5 : ((({ data := #[43, 45, 42, 47, 37, 60, 62, 61, 38, 58] } : ByteArray).extract 5 6).toList == (s.extract p (p + 1)).toList) = false := by assumption
          rw [lit5] at h5
          have g5 : bt s p ≠ 60 := fun e => by rw [(one_iff hlt 60).2 e] at h5; cases h5
          have h6 : ((({ data := #[43, 45, 42, 47, 37, 60, 62, 61, 38, 58] } : ByteArray).extract 6 7).toList == (s.extract p (p + 1)).toList) = false := by assumption
          rw [lit6] at h6
          have g6 : bt s p ≠ 62 := fun e => by rw [(one_iff hlt 62).2 e] at h6; cases h6
          have h7 : ((({ data := #[43, 45, 42, 47, 37, 60, 62, 61, 38, 58] } : ByteArray).extract 7 8).toList == (s.extract p (p + 1)).toList) = false := by assumption
          rw [lit7] at h7
          have g7 : bt s p ≠ 61 := fun e => by rw [(one_iff hlt 61).2 e] at h7; cases h7
          have h8 : ((({ data := #[43, 45, 42, 47, 37, 60, 62, 61, 38, 58] } : ByteArray).extract 8 9).toList == (s.extract p (p + 1)).toList) = false := by assumption
          rw [lit8] at h8
          have g8 : bt s p ≠ 38 := fun e => by rw [(one_iff hlt 38).2 e] at h8; cases h8
          have h9 : ((({ data := #[43, 45, 42, 47, 37, 60, 62, 61, 38, 58] } : ByteArray).extract 9 10).toList == (s.extract p (p + 1)).toList) = false := by assumption
          rw [lit9] at h9
          have g9 : bt s p ≠ 58 := fun e => by rw [(one_iff hlt 58).2 e] at h9; cases h9
          exact ⟨g0, g1, g2, g3, g4, g5, g6, g7, g8, g9⟩)
        go_ret2
        exact ⟨n61end hj rfl (show (p : Int) = ((p + (opS 13).size : Nat) : Int) from rfl), (Below.refl _ _).alloc (Nat.le_refl _) _⟩
    · have hb : bt s p = 0 := by simp [bt, hlt]
      have hj : opIx s p = 13 := op0 (by omega)
      have HJ := Lib.hid hj
      clear hj
      go_enter Tryd.func61, Tryd.ntmps61
      go_wp2
      go_ret2
      exact ⟨n61end HJ.out rfl (show (p : Int) = ((p + (opS 13).size : Nat) : Int) from rfl), (Below.refl _ _).alloc (Nat.le_refl _) _⟩
end Go.Proofs.YtonhglhdbpmnhaaDoor
