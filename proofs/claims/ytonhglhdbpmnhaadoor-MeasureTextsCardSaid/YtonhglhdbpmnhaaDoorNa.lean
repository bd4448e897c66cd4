/- Walks of the document's own answers to layer 1: the small functions. -/
import Derived.Test.YtonhglhdbpmnhaaDoorMa
import Derived.Test.YtonhglhdbpmnhaaDoorMk
import Derived.LoopN
namespace Go.Proofs.YtonhglhdbpmnhaaDoor
open Go.RowKit

theorem ret_b' {a b : Bool} (h : a = b) : Ending.returned (.bool a) = .returned (.bool b) := by rw [h]
theorem nbox {w w1 : World} {o : Obj} (h : Below (w.alloc o).heap.size (w.alloc o) w1) : Below w.heap.size w w1 :=
  ((Below.refl w.heap.size w).alloc (Nat.le_refl _) o).trans (h.mono (by simp))
theorem ntrans {w w1 w2 : World} (h : Below w.heap.size w w1) (k : Below w1.heap.size w1 w2) : Below w.heap.size w w2 := h.trans (k.mono h.size)
theorem nalloc {w w1 : World} (h : Below w.heap.size w w1) (o : Obj) : Below w.heap.size w (w1.alloc o) := h.alloc h.size o
theorem ncell {W w1 : World} (hb : Below W.heap.size W w1) : (∀ b o, b < W.heap.size → w1.cell? ⟨b, o, none⟩ = W.cell? ⟨b, o, none⟩) ∧ (∀ b o, b < W.heap.size → w1.frozen? ⟨b, o, none⟩ = W.frozen? ⟨b, o, none⟩) :=
  ⟨fun b o h => hb.cell (p := ⟨b, o, none⟩) h, fun b o h => hb.frozen (p := ⟨b, o, none⟩) h⟩

/-- 59: digit. -/
theorem n59 (c : Nat) (w : World) : Calls Tryd.prog 59 #[.int .u8 c] w fun e w' => e = .returned (.bool (isDig c)) ∧ w = w' := by
  by_cases h1 : 48 ≤ (c : Int)
  · have hw : isDig c = decide ((c : Int) ≤ 57) := by simp [isDig, h1]
    rw [hw]; clear hw
    go_enter Tryd.func59, Tryd.ntmps59
    go_wp2
    all_goals go_ret
    all_goals exact ⟨rfl, rfl⟩
  · have hw : isDig c = false := by simp [isDig, h1]
    rw [hw]; clear hw
    go_enter Tryd.func59, Tryd.ntmps59
    go_wp2
    all_goals go_ret
    all_goals exact ⟨rfl, rfl⟩
/-- 43: within. -/
theorem n43 (n : Int) (w : World) : Calls Tryd.prog 43 #[.int .i64 n] w fun e w' => e = .returned (.bool (within n)) ∧ w = w' := by
  by_cases h1 : -1000000000 ≤ n
  · have hw : within n = decide (n ≤ 1000000000) := by simp [within, h1]
    rw [hw]; clear hw
    go_enter Tryd.func43, Tryd.ntmps43
    go_wp2
    all_goals go_ret
    all_goals exact ⟨rfl, rfl⟩
  · have hw : within n = false := by simp [within, h1]
    rw [hw]; clear hw
    go_enter Tryd.func43, Tryd.ntmps43
    go_wp2
    all_goals go_ret
    all_goals exact ⟨rfl, rfl⟩
/-- 79: truth. -/
theorem n79 (b : Bool) (w : World) : Calls Tryd.prog 79 #[.bool b] w fun e w' => e = .returned (.int .i64 (truthI b)) ∧ w = w' := by
  cases b
  all_goals
    go_enter Tryd.func79, Tryd.ntmps79
    go_wp2
    go_ret
    exact ⟨rfl, rfl⟩
/-- 33: Fits. -/
theorem n33 (sz vs here : Int) (w : World) :
    Calls Tryd.prog 33 #[.agg #[.int .i64 sz, .int .i64 vs, .int .i64 here]] w fun e w' => e = .returned (.bool (okB sz vs here)) ∧ Below w.heap.size w w' := by
  go_enter Tryd.func33, Tryd.ntmps33
  go_wp2
  all_goals
    go_ret
    refine ⟨ret_b' ?_, (Below.refl _ _).alloc (Nat.le_refl _) _⟩
    show _ = okB sz vs here
    unfold okB within
    simp [*]
    try omega
/-- 34: isScale. -/
def scB (c : Nat) : Bool := ((117 : Int) == (c : Int)) || (((112 : Int) == (c : Int)) || (((80 : Int) == (c : Int)) || (((105 : Int) == (c : Int)) || (((99 : Int) == (c : Int)) || (((109 : Int) == (c : Int)) || (((110 : Int) == (c : Int)) || ((118 : Int) == (c : Int))))))))
theorem beq_swap (a b : Int) : (a == b) = (b == a) := by rw [Bool.eq_iff_iff]; simp only [beq_iff_eq]; exact eq_comm
theorem scB_eq (c : Nat) (sz vs : Int) : scB c = (unitF c sz vs).isSome := by
  unfold scB unitF
  rw [beq_swap 117, beq_swap 112, beq_swap 80, beq_swap 105, beq_swap 99, beq_swap 109, beq_swap 110, beq_swap 118]
  cases ((c : Int) == 117)
  · cases ((c : Int) == 112)
    · cases ((c : Int) == 80)
      · cases ((c : Int) == 105)
        · cases ((c : Int) == 99)
          · cases ((c : Int) == 109)
            · cases ((c : Int) == 110)
              · cases ((c : Int) == 118) <;> rfl
              · rfl
            · rfl
          · rfl
        · rfl
      · rfl
    · rfl
  · rfl
def scL (c : Nat) : Bool := ((((({ data := #[117, 112, 80, 105, 99, 109, 110, 118] } : ByteArray)[0]'(by decide)).toNat : Int) == (c : Int)) || ((((({ data := #[117, 112, 80, 105, 99, 109, 110, 118] } : ByteArray)[1]'(by decide)).toNat : Int) == (c : Int)) || ((((({ data := #[117, 112, 80, 105, 99, 109, 110, 118] } : ByteArray)[2]'(by decide)).toNat : Int) == (c : Int)) || ((((({ data := #[117, 112, 80, 105, 99, 109, 110, 118] } : ByteArray)[3]'(by decide)).toNat : Int) == (c : Int)) || ((((({ data := #[117, 112, 80, 105, 99, 109, 110, 118] } : ByteArray)[4]'(by decide)).toNat : Int) == (c : Int)) || ((((({ data := #[117, 112, 80, 105, 99, 109, 110, 118] } : ByteArray)[5]'(by decide)).toNat : Int) == (c : Int)) || ((((({ data := #[117, 112, 80, 105, 99, 109, 110, 118] } : ByteArray)[6]'(by decide)).toNat : Int) == (c : Int)) || (((({ data := #[117, 112, 80, 105, 99, 109, 110, 118] } : ByteArray)[7]'(by decide)).toNat : Int) == (c : Int)))))))))
theorem scL_eq (c : Nat) : scL c = scB c := rfl
theorem n34 (c : Nat) (w : World) : Calls Tryd.prog 34 #[.int .u8 c] w fun e w' => e = .returned (.bool (unitF c 0 0).isSome) ∧ w = w' := by
  rw [← scB_eq, ← scL_eq]
  go_enter Tryd.func34, Tryd.ntmps34
  go_wp2
  go_rounds 9
  all_goals
    go_ret
    refine ⟨ret_b' ?_, rfl⟩
    show _ = scL c
    simp only [scL, *, Bool.true_or, Bool.false_or, Bool.or_false]
/-- 31: unit. -/
theorem n31 (c : Nat) (sz vs here : Int) (w : World) (_h1 : 0 ≤ sz) (_h2 : sz ≤ 1000000) :
    Calls Tryd.prog 31 #[.int .u8 c, .agg #[.int .i64 sz, .int .i64 vs, .int .i64 here]] w fun e w' => e = .returned (.int .i64 ((unitF c sz vs).getD vs)) ∧ Below w.heap.size w w' := by
  go_enter Tryd.func31, Tryd.ntmps31
  go_wp2
  all_goals
    go_ret
    refine ⟨ret_i ?_, (Below.refl _ _).alloc (Nat.le_refl _) _⟩
    show _ = (unitF c sz vs).getD vs
    simp only [unitF, *, if_true, Bool.false_eq_true, if_false, Option.getD_some]
    try (split <;> rfl)
/-- 39: arg. -/
theorem n39 (c : Nat) (sz vs here : Int) (w : World) :
    Calls Tryd.prog 39 #[.int .u8 c, .agg #[.int .i64 sz, .int .i64 vs, .int .i64 here]] w fun e w' => e = .returned (.bool (argF c sz vs here).isSome) ∧ Below w.heap.size w w' := by
  have hr : (argF c sz vs here).isSome = (okB sz vs here && (unitF c 0 0).isSome) := by
    unfold argF
    rw [unitF_isSome c 0 0 sz vs]
    cases okB sz vs here <;> rfl
  rw [hr]
  cases ho : okB sz vs here
  · have h33 : ∀ w, Calls Tryd.prog 33 #[.agg #[.int .i64 sz, .int .i64 vs, .int .i64 here]] w fun e w' => e = .returned (.bool false) ∧ Below w.heap.size w w' := fun w => by
      have := n33 sz vs here w
      rw [ho] at this; exact this
    have H33 := Lib.hid h33
    clear h33 hr ho
    go_enter Tryd.func39, Tryd.ntmps39
    go_wp2_with (first
      | (go_at_call 33; refine (H33.out _).mono ?_; rintro e w1 ⟨rfl, hb1⟩)
      | (go_at_call 34; refine (n34 _ _).mono ?_; rintro e w' ⟨rfl, rfl⟩))
    go_ret
    exact ⟨rfl, nbox hb1⟩
  · have h33 : ∀ w, Calls Tryd.prog 33 #[.agg #[.int .i64 sz, .int .i64 vs, .int .i64 here]] w fun e w' => e = .returned (.bool true) ∧ Below w.heap.size w w' := fun w => by
      have := n33 sz vs here w
      rw [ho] at this; exact this
    have H33 := Lib.hid h33
    clear h33 hr ho
    simp only [Bool.true_and]
    go_enter Tryd.func39, Tryd.ntmps39
    go_wp2_with (first
      | (go_at_call 33; refine (H33.out _).mono ?_; rintro e w1 ⟨rfl, hb1⟩)
      | (go_at_call 34; refine (n34 _ _).mono ?_; rintro e w' ⟨rfl, rfl⟩))
    all_goals go_ret
    all_goals exact ⟨rfl, nbox hb1⟩
/-- A reader of the document's own. -/
abbrev rdr (s : ByteArray) (sc : Nat) (sz vs here : Int) (fm : Bool) : Value := .agg #[.string s, .int .u8 sc, .int .i64 sz, .int .i64 vs, .int .i64 here, .bool fm]
/-- 62: skip. -/
def R62 (s : ByteArray) (i deep : Nat) (v : Value) : Prop := ∃ p : Nat, v = .int .i64 p ∧ i ≤ p ∧ p ≤ s.size ∧ (∀ k, i ≤ k → k < p → blk s deep k = true)
theorem n62 (s : ByteArray) (sc : Nat) (sz vs here : Int) (fm : Bool) (i deep : Nat) (w : World) (hs : s.size ≤ 100000) (hi : i ≤ s.size) (_hd : deep ≤ 100) :
    Calls Tryd.prog 62 #[rdr s sc sz vs here fm, .int .i64 i, .int .i64 deep] w fun e w' => e = .returned (.int .i64 (skp s deep i)) ∧ Below w.heap.size w w' := by
  unfold rdr
  go_enter Tryd.func62, Tryd.ntmps62
  go_wp2
  go_loop [1] (fun v => R62 s i deep v) (fun v => s.size - (intOf v).toNat)
  case atStart => exact ⟨i, rfl, Nat.le_refl _, hi, fun k a b => by omega⟩
  case round =>
    obtain ⟨p, rfl, hp1, hp2, hb⟩ := hrel
    have HB := Lib.hid hb
    clear hb
    by_cases hlt : p < s.size
    · have hbt : bt s p = (s[p]'hlt).toNat := by simp [bt, hlt]
      have HT := Lib.hid hbt
      clear hbt
      go_wp2
      · have hd : 0 < deep := by assumption
        have hc : (((s[p]'hlt).toNat : Int) == 32) = true := by assumption
        refine ⟨⟨p + 1, by go_num, by omega, by omega, fun k a b => ?_⟩, by simp [intOf]; omega⟩
        by_cases hk : k = p
        · subst hk
          rw [← HT.out] at hc
          simp at hc
          simp [blk, hd]; omega
        · exact HB.out k a (by omega)
      · have hc : (((s[p]'hlt).toNat : Int) == 32) = false := by assumption
        rw [← HT.out] at hc
        have hk : skp s deep i = p := scan_eq hp1 hp2 HB.out (by simp at hc; simp [blk]; omega)
        go_ret
        exact ⟨ret_i (by rw [hk]), (Below.refl _ _).alloc (Nat.le_refl _) _⟩
      · have hk : skp s deep i = p := scan_eq hp1 hp2 HB.out (by simp [blk]; omega)
        go_ret
        exact ⟨ret_i (by rw [hk]), (Below.refl _ _).alloc (Nat.le_refl _) _⟩
    · have hbt : bt s p = 0 := by simp [bt, hlt]
      have hk : skp s deep i = p := scan_eq hp1 hp2 HB.out (by simp [blk, hbt])
      go_wp2
      all_goals
        go_ret
        exact ⟨ret_i (by first | rfl | rw [hk]), (Below.refl _ _).alloc (Nat.le_refl _) _⟩
end Go.Proofs.YtonhglhdbpmnhaaDoor
