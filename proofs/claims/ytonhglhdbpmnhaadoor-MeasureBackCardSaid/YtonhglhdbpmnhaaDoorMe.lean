/- Walks of package measure's reader: operators, read and done. -/
import Derived.Test.YtonhglhdbpmnhaaDoorMd
import Derived.Test.YtonhglhdbpmnhaaDoorMq
namespace Go.Proofs.YtonhglhdbpmnhaaDoor
open Go.RowKit

theorem mul_in {a b : Int} (ha : within a = true) (hb : within b = true) : -1000000000000000000 ≤ a * b ∧ a * b ≤ 1000000000000000000 := by
  have h1 := within_iff.1 ha
  have h2 := within_iff.1 hb
  have h3 : (a * b).natAbs ≤ 1000000000 * 1000000000 := by
    rw [Int.natAbs_mul]
    exact Nat.mul_le_mul (by omega) (by omega)
  omega
theorem tdiv_in {a : Int} (b : Int) (ha : within a = true) : -1000000000 ≤ a.tdiv b ∧ a.tdiv b ≤ 1000000000 := by
  have h1 := within_iff.1 ha
  have h3 : (a.tdiv b).natAbs ≤ a.natAbs := by
    rw [Int.natAbs_tdiv]
    exact Nat.div_le_self _ _
  omega
theorem tmod_in {a : Int} (b : Int) (ha : within a = true) : -1000000000 ≤ a.tmod b ∧ a.tmod b ≤ 1000000000 := by
  have h1 := within_iff.1 ha
  have h3 : (a.tmod b).natAbs ≤ a.natAbs := by
    rw [Int.natAbs_tmod]
    exact Nat.mod_le _ _
  omega

/-- 54: apply; in form only, 0. -/
theorem c54f (g : Nat) (op : ByteArray) (a b : Int) (w : World) (h7 : w.cell? ⟨g, 7, none⟩ = some (.bool true)) :
    Calls Tryd.prog 54 #[.pointer (some ⟨g, 0, none⟩), .string op, .int .i64 a, .int .i64 b] w fun e w' => e = .returned (.int .i64 0) ∧ w = w' := by
  go_enter Tryd.func54, Tryd.ntmps54
  go_wp2
  go_ret
  exact ⟨rfl, rfl⟩
theorem c54cmp (g : Nat) (j : Nat) (hj : j < 6 ∨ j = 11 ∨ j = 12) (a b : Int) (w : World) (h7 : w.cell? ⟨g, 7, none⟩ = some (.bool false)) :
    Calls Tryd.prog 54 #[.pointer (some ⟨g, 0, none⟩), .string (opS j), .int .i64 a, .int .i64 b] w fun e w' => e = .returned (.int .i64 (ap j a b)) ∧ w = w' := by
  have h : j = 0 ∨ j = 1 ∨ j = 2 ∨ j = 3 ∨ j = 4 ∨ j = 5 ∨ j = 11 ∨ j = 12 := by omega
  rcases h with rfl | rfl | rfl | rfl | rfl | rfl | rfl | rfl
  all_goals
    simp only [opS, ap]
    go_enter Tryd.func54, Tryd.ntmps54
    go_wp2_with (go_at_call 75; refine (c75 _ _).mono ?_; rintro e w' ⟨rfl, rfl⟩)
    all_goals
      go_ret
      first | exact ⟨rfl, rfl⟩ | (refine ⟨?_, rfl⟩; simp [*]; done) | (refine ⟨?_, rfl⟩; refine ret_i (congrArg truthI ?_); simp; omega)
theorem c54s (g : Nat) (j : Nat) (hj : j = 6 ∨ j = 7 ∨ j = 8) (a b : Int) (w : World) (h7 : w.cell? ⟨g, 7, none⟩ = some (.bool false)) (ha : within a = true) (hb : within b = true) (hn : within (ap j a b) = true) :
    Calls Tryd.prog 54 #[.pointer (some ⟨g, 0, none⟩), .string (opS j), .int .i64 a, .int .i64 b] w fun e w' => e = .returned (.int .i64 (ap j a b)) ∧ w = w' := by
  have hm := mul_in ha hb
  have h1 := within_iff.1 ha
  have h2 := within_iff.1 hb
  rcases hj with rfl | rfl | rfl
  all_goals
    simp only [opS, ap] at hn ⊢
    go_enter Tryd.func54, Tryd.ntmps54
    go_wp2_with (go_at_call 73; refine (c73 _ _ _ h7 hn).mono ?_; rintro e w' ⟨rfl, rfl⟩)
    go_ret
    exact ⟨rfl, rfl⟩
theorem c54x (g : Nat) (j : Nat) (hj : j = 6 ∨ j = 7 ∨ j = 8) (a b : Int) (w : World) (h7 : w.cell? ⟨g, 7, none⟩ = some (.bool false)) (ha : within a = true) (hb : within b = true) (hn : within (ap j a b) = false) :
    Calls Tryd.prog 54 #[.pointer (some ⟨g, 0, none⟩), .string (opS j), .int .i64 a, .int .i64 b] w fun e w' => e = thrown 5 ∧ w = w' := by
  have hm := mul_in ha hb
  have h1 := within_iff.1 ha
  have h2 := within_iff.1 hb
  rcases hj with rfl | rfl | rfl
  all_goals
    simp only [opS, ap] at hn ⊢
    go_enter Tryd.func54, Tryd.ntmps54
    go_wp2_with (go_at_call 73; refine (c73x _ _ _ h7 hn).mono ?_; rintro e w' ⟨rfl, rfl⟩)
    exact ⟨rfl, rfl, rfl⟩
theorem c54d (g : Nat) (j : Nat) (hj : j = 9 ∨ j = 10) (a b : Int) (w : World) (h7 : w.cell? ⟨g, 7, none⟩ = some (.bool false)) (ha : within a = true) (hz : ¬ b = 0) :
    Calls Tryd.prog 54 #[.pointer (some ⟨g, 0, none⟩), .string (opS j), .int .i64 a, .int .i64 b] w fun e w' => e = .returned (.int .i64 (ap j a b)) ∧ w = w' := by
  have hm := tdiv_in b ha
  have hm2 := tmod_in b ha
  rcases hj with rfl | rfl
  all_goals
    simp only [opS, ap]
    go_enter Tryd.func54, Tryd.ntmps54
    go_wp2_with (go_at_call 74; refine (c74 _ hz _).mono ?_; rintro e w' ⟨rfl, rfl⟩)
    go_ret
    refine ⟨?_, rfl⟩
    first | rfl | (refine ret_i ?_; simp only [wrap64]; omega)
theorem c54z (g : Nat) (j : Nat) (hj : j = 9 ∨ j = 10) (a : Int) (w : World) (h7 : w.cell? ⟨g, 7, none⟩ = some (.bool false)) :
    Calls Tryd.prog 54 #[.pointer (some ⟨g, 0, none⟩), .string (opS j), .int .i64 a, .int .i64 0] w fun e w' => e = thrown 11 ∧ w = w' := by
  rcases hj with rfl | rfl
  all_goals
    simp only [opS]
    go_enter Tryd.func54, Tryd.ntmps54
    go_wp2_with (go_at_call 74; refine (c74z _).mono ?_; rintro e w' ⟨rfl, rfl⟩)
    exact ⟨rfl, rfl, rfl⟩
/-- 54: apply. -/
theorem c54v (g : Nat) (M : Md) (j : Nat) (hj : j < 13) (a b n : Int) (w : World) (h7 : w.cell? ⟨g, 7, none⟩ = some (.bool M.fm)) (ha : within a = true) (hb : within b = true) (hr : rk M.fm j a b = .val n) :
    Calls Tryd.prog 54 #[.pointer (some ⟨g, 0, none⟩), .string (opS j), .int .i64 a, .int .i64 b] w fun e w' => e = .returned (.int .i64 n) ∧ w = w' := by
  rcases hfm : M.fm with _ | _
  · rw [hfm] at hr h7
    unfold rk at hr
    rw [if_neg (by decide)] at hr
    by_cases h1 : (j = 9 ∨ j = 10) ∧ b = 0
    · rw [if_pos h1] at hr; cases hr
    rw [if_neg h1] at hr
    by_cases h2 : within (ap j a b) = true
    · rw [if_pos h2] at hr
      cases hr
      by_cases h3 : j = 9 ∨ j = 10
      · exact c54d g j h3 a b w h7 ha (fun h => h1 ⟨h3, h⟩)
      · by_cases h4 : j = 6 ∨ j = 7 ∨ j = 8
        · exact c54s g j h4 a b w h7 ha hb h2
        · exact c54cmp g j (by omega) a b w h7
    · rw [if_neg h2] at hr; cases hr
  · rw [hfm] at hr h7
    cases hr
    exact c54f g _ a b w h7
theorem within_cmp {j : Nat} (hj : j < 6 ∨ j = 11 ∨ j = 12) (a b : Int) : within (ap j a b) = true := by
  have h : j = 0 ∨ j = 1 ∨ j = 2 ∨ j = 3 ∨ j = 4 ∨ j = 5 ∨ j = 11 ∨ j = 12 := by omega
  rcases h with rfl | rfl | rfl | rfl | rfl | rfl | rfl | rfl <;> exact within_truth _
theorem c54b (g : Nat) (M : Md) (j : Nat) (hj : j < 13) (a b : Int) (x : Nat) (w : World) (h7 : w.cell? ⟨g, 7, none⟩ = some (.bool M.fm)) (ha : within a = true) (hb : within b = true) (hr : rk M.fm j a b = .bad x) :
    Calls Tryd.prog 54 #[.pointer (some ⟨g, 0, none⟩), .string (opS j), .int .i64 a, .int .i64 b] w fun e w' => e = thrown x ∧ w = w' := by
  rcases hfm : M.fm with _ | _
  · rw [hfm] at hr h7
    unfold rk at hr
    rw [if_neg (by decide)] at hr
    by_cases h1 : (j = 9 ∨ j = 10) ∧ b = 0
    · rw [if_pos h1] at hr; cases hr
      obtain ⟨h1, rfl⟩ := h1
      exact c54z g j h1 a w h7
    rw [if_neg h1] at hr
    by_cases h2 : within (ap j a b) = true
    · rw [if_pos h2] at hr; cases hr
    · rw [if_neg h2] at hr
      cases hr
      have h2' : within (ap j a b) = false := by simpa using h2
      by_cases h3 : j = 9 ∨ j = 10
      · exfalso
        rcases h3 with rfl | rfl
        · exact h2 (within_iff.2 (tdiv_in b ha))
        · exact h2 (within_iff.2 (tmod_in b ha))
      · by_cases h4 : j = 6 ∨ j = 7 ∨ j = 8
        · exact c54x g j h4 a b w h7 ha hb h2'
        · exact absurd (within_cmp (by omega) a b) h2
  · rw [hfm] at hr; cases hr

/-- What the program's table of operators holds. -/
def opsA : Array Value := #[.string ⟨#[60, 61]⟩, .string ⟨#[62, 61]⟩, .string ⟨#[61, 61]⟩, .string ⟨#[60]⟩, .string ⟨#[62]⟩, .string ⟨#[61]⟩, .string ⟨#[43]⟩, .string ⟨#[45]⟩, .string ⟨#[42]⟩, .string ⟨#[47]⟩, .string ⟨#[37]⟩, .string ⟨#[38]⟩, .string ⟨#[58]⟩]
def OpsAt (w : World) : Prop := ∃ t fr, w.heap[0]? = some (.cells opsA t fr)
theorem OpsAt.lt {w : World} (h : OpsAt w) : 0 < w.heap.size := by
  obtain ⟨t, fr, h⟩ := h
  rcases Nat.eq_zero_or_pos w.heap.size with h0 | h0
  · rw [Array.getElem?_eq_none (by omega)] at h; cases h
  · exact h0
theorem OpsAt.grown {w w' : World} (h : OpsAt w) {g : Nat} (hg : g ≠ 0) (k : w.grownBy w' (some g)) : OpsAt w' := by
  have hl := h.lt
  obtain ⟨t, fr, h⟩ := h
  exact ⟨t, fr, (k.block 0 hl (fun e => hg (by injection e with e; exact e.symm))).trans h⟩
theorem OpsAt.below {w w' : World} (h : OpsAt w) (k : Below w.heap.size w w') : OpsAt w' := by
  have hl := h.lt
  obtain ⟨t, fr, h⟩ := h
  exact ⟨t, fr, (k.block 0 hl).trans h⟩
theorem ix96 : ∀ (k : Nat), k < 13 → ∀ (w : World), (Instr.index 96 (.agg opsA) (.int .i64 k)).run Tryd.prog w = .ok (.string (opS k)) w
  | 0, _ => fun _ => by kernel_rfl
  | 1, _ => fun _ => by kernel_rfl
  | 2, _ => fun _ => by kernel_rfl
  | 3, _ => fun _ => by kernel_rfl
  | 4, _ => fun _ => by kernel_rfl
  | 5, _ => fun _ => by kernel_rfl
  | 6, _ => fun _ => by kernel_rfl
  | 7, _ => fun _ => by kernel_rfl
  | 8, _ => fun _ => by kernel_rfl
  | 9, _ => fun _ => by kernel_rfl
  | 10, _ => fun _ => by kernel_rfl
  | 11, _ => fun _ => by kernel_rfl
  | 12, _ => fun _ => by kernel_rfl
  | k + 13, h => absurd h (by omega)
theorem c72 (s : ByteArray) (p k : Nat) (w : World) : Calls Tryd.prog 72 #[.string (s.extract p s.size), .string (opS k)] w fun e w' => e = .returned (.bool (hpB s p k)) ∧ w' = w :=
  Tryd.strings_HasPrefix (s.extract p s.size) (opS k) w

def R53 (g : Nat) (s : ByteArray) (M : Md) (p deep : Nat) (w : World) (v8 : Value) (wr : World) : Prop :=
  ∃ k : Nat, k ≤ 13 ∧ v8 = .int .i64 k ∧ (∀ j, j < k → opHit j (bt s p) (bt s (p + 1)) = false) ∧ Moved w g s M p deep wr
set_option maxRecDepth 100000 in
/-- 53: operator. -/
theorem c53 (g : Nat) (s : ByteArray) (M : Md) (pos deep : Nat) (w : World) (h : Rd w g s M pos deep) (hO : OpsAt w) (hg : g ≠ 0) (hs : s.size ≤ 100000) (hp : pos ≤ s.size) (hd : deep ≤ 20) :
    Calls Tryd.prog 53 #[.pointer (some ⟨g, 0, none⟩)] w fun e w' => e = .returned (.string (opS (opIx s (skp s deep pos)))) ∧ Moved w g s M (skp s deep pos + (opS (opIx s (skp s deep pos))).size) deep w' := by
  have hsz : s.size ≤ maxLen := by unfold maxLen; omega
  have hpl := skp_le (deep := deep) hp
  have h71 := c71 g s M pos deep w h hs hp hd
  unfold opIx
  generalize skp s deep pos = p at h71 hpl ⊢
  have H71 := Lib.hid h71
  clear h71
  go_enter Tryd.func53, Tryd.ntmps53
  go_wp2_with (first
    | (go_at_call 71; refine H71.out.mono ?_; rintro e w1 ⟨rfl, hm1⟩; have hO1 := hO.grown hg hm1.2; obtain ⟨tt, fr, ho1⟩ := hO1)
    | (refine wpList_load_row rfl 96 _ rfl 0 rfl tt _ fr _ ho1 Tryd.underlying96 rfl (by kernel_rfl) ?_))
  have hgr : w1.grownBy w1 (some g) := World.grownBy.refl w1 _
  go_loopw [8] (fun v8 wr => R53 g s M p deep w v8 wr) (fun v8 _ => 13 - (intOf v8).toNat)
  case atStart => exact ⟨0, by omega, rfl, fun j hj => by omega, hm1⟩
  case round =>
    obtain ⟨k, hk, rfl, hb, hm⟩ := hrel
    have HB := Lib.hid hb
    clear hb hm1 ho1
    have h0 := hm.1.c0
    have h1 := hm.1.c1
    have hf := hm.1.fz 1
    by_cases hk13 : k < 13
    · have hix := ix96 k hk13
      have hkop := opS_size hk13
      have hhit := hpB_eq s p k hk13
      have HH := Lib.hid hhit
      clear hhit
      go_wp2_with fail
      clear hix
      have hp2 : (p : Int) ≤ (s.size : Int) := by omega
      go_quiet ((go_at_call 72; exact Calls.quiet_of_same (c72 s p k _)))
      have hmq := hm.drewN nq
      have h1q := hmq.1.c1
      have hfq := hmq.1.fz 1
      go_wp2_with fail
      · have hh : hpB s p k = true := by assumption
        have hj : opFor (bt s p) (bt s (p + 1)) = k := opFor_eq hk HB.out (.inl (by rw [← HH.out]; exact hh))
        go_ret
        refine ⟨by rw [hj]; rfl, ?_⟩
        rw [hj]
        exact hmq.step _ _ (by simp)
      · have hh : hpB s p k = false := by assumption
        refine ⟨⟨k + 1, by omega, by go_num, fun j hj => ?_, hmq⟩, by simp [intOf]; omega⟩
        by_cases hjk : j = k
        · subst hjk; rw [← HH.out]; exact hh
        · exact HB.out j (by omega)
    · obtain rfl : k = 13 := by omega
      go_wp2_with fail
      have hj : opFor (bt s p) (bt s (p + 1)) = 13 := opFor_eq (by omega) HB.out (.inr rfl)
      go_ret
      refine ⟨by rw [hj]; rfl, ?_⟩
      rw [hj]
      exact hm
end Go.Proofs.YtonhglhdbpmnhaaDoor
