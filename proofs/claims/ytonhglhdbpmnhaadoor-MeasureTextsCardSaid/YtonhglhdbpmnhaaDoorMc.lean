/- Walks of package measure's reader: scales, signs, operators applied. -/
import Derived.Test.YtonhglhdbpmnhaaDoorMb
import Derived.Deep.RegionHeld3
namespace Go.Proofs.YtonhglhdbpmnhaaDoor
open Go.RowKit

theorem Moved.below {w w1 w2 : World} {g : Nat} {s : ByteArray} {M : Md} {pos deep : Nat} (h : Moved w g s M pos deep w1) (hb : Below w1.heap.size w1 w2) : Moved w g s M pos deep w2 :=
  ⟨Blk.below h.1 hb (Blk.lt h.1), only_trans h.2 (only_of_below hb _)⟩
theorem keep78 {w w' : World} {g : Nat} {s : ByteArray} {M : Md} {pos deep : Nat} (h : Moved w g s M pos deep w') :
    w'.cell? ⟨g, 0, none⟩ = some (.string s) ∧ w'.cell? ⟨g, 1, none⟩ = some (.int .i64 pos) ∧ w'.cell? ⟨g, 4, none⟩ = some (.int .i64 M.sz) ∧ w'.cell? ⟨g, 5, none⟩ = some (.int .i64 M.vs) ∧ w'.cell? ⟨g, 6, none⟩ = some (.int .i64 M.here) ∧ Moved w g s M pos deep w' :=
  ⟨h.1.c0, h.1.c1, h.1.c4, h.1.c5, h.1.c6, h⟩
theorem c28s {c : Nat} {sz vs n : Int} (hu : unitF c sz vs = some n) (here : Int) (w : World) (h1 : 0 ≤ sz) (h2 : sz ≤ 1000000) :
    Calls Tryd.prog 28 #[.int .u8 c, .agg #[.int .i64 sz, .int .i64 vs, .int .i64 here]] w fun e w' => e = .returned (.tuple #[.int .i64 n, .bool true]) ∧ Below w.heap.size w w' := by
  have h := c28 c sz vs here w h1 h2
  rw [hu] at h
  exact h
theorem c28n {c : Nat} {sz vs : Int} (hu : unitF c sz vs = none) (here : Int) (w : World) (h1 : 0 ≤ sz) (h2 : sz ≤ 1000000) :
    Calls Tryd.prog 28 #[.int .u8 c, .agg #[.int .i64 sz, .int .i64 vs, .int .i64 here]] w fun e w' => e = .returned (.tuple #[.int .i64 0, .bool false]) ∧ Below w.heap.size w w' := by
  have h := c28 c sz vs here w h1 h2
  rw [hu] at h
  exact h
set_option maxRecDepth 100000 in
/-- 78: scale, a letter. -/
theorem c78s (g : Nat) (s : ByteArray) (M : Md) (pos deep : Nat) (n : Int) (w : World) (h : Rd w g s M pos deep) (hs : s.size ≤ 100000) (_hp : pos ≤ s.size) (hM : M.okay) (hu : unitF (bt s pos) M.sz M.vs = some n) :
    Calls Tryd.prog 78 #[.pointer (some ⟨g, 0, none⟩)] w fun e w' => e = .returned (.int .i64 n) ∧ Moved w g s M (pos + 1) deep w' := by
  have hsz : s.size ≤ maxLen := by unfold maxLen; omega
  have h0 := h.c0
  have h1 := h.c1
  have h4 := h.c4
  have h5 := h.c5
  have h6 := h.c6
  have hm0 : Moved w g s M pos deep w := Moved.refl h
  obtain ⟨_, _, k1, k2, _⟩ := hM
  have HU := Lib.hid hu
  clear hu
  go_enter Tryd.func78, Tryd.ntmps78
  go_wp2
  go_region_held3 (fun w' => w'.cell? ⟨g, 0, none⟩ = some (.string s) ∧ w'.cell? ⟨g, 1, none⟩ = some (.int .i64 pos) ∧ w'.cell? ⟨g, 4, none⟩ = some (.int .i64 M.sz) ∧ w'.cell? ⟨g, 5, none⟩ = some (.int .i64 M.vs) ∧ w'.cell? ⟨g, 6, none⟩ = some (.int .i64 M.here) ∧ Moved w g s M pos deep w')
    (first | exact keep78 hm0 | exact keep78 hm0.drew | exact keep78 (by assumption) | exact keep78 (Moved.below (w1 := w.drew) hm0.drew (by assumption)))
    (first | (go_at_call 56; refine (c56 g s _ _ ?_ hsz).mono ?_; (simp [*]); rintro e w' ⟨rfl, rfl⟩) | (go_at_call 28; refine (c28s HU.out _ _ k1 k2).mono ?_; rintro e w1 ⟨rfl, hbel⟩))
  have hm1 : Moved w g s M pos deep w1 := Moved.below (w1 := w.drew) hm0.drew hbel
  have q1 := hm1.1.c1
  have q3 := hm1.1.c3
  have qf := hm1.1.fz 1
  go_wp2
  go_ret
  exact ⟨rfl, hm1.step _ _ (by simp)⟩
set_option maxRecDepth 100000 in
/-- 78: scale, none. -/
theorem c78n (g : Nat) (s : ByteArray) (M : Md) (pos deep : Nat) (w : World) (h : Rd w g s M pos deep) (hs : s.size ≤ 100000) (_hp : pos ≤ s.size) (hM : M.okay) (hu : unitF (bt s pos) M.sz M.vs = none) :
    Calls Tryd.prog 78 #[.pointer (some ⟨g, 0, none⟩)] w fun e w' => e = .returned (.int .i64 M.one) ∧ Moved w g s M pos deep w' := by
  have hsz : s.size ≤ maxLen := by unfold maxLen; omega
  have h0 := h.c0
  have h1 := h.c1
  have h4 := h.c4
  have h5 := h.c5
  have h6 := h.c6
  have hm0 : Moved w g s M pos deep w := Moved.refl h
  obtain ⟨_, _, k1, k2, _⟩ := hM
  have HU := Lib.hid hu
  clear hu
  go_enter Tryd.func78, Tryd.ntmps78
  go_wp2
  go_region_held3 (fun w' => w'.cell? ⟨g, 0, none⟩ = some (.string s) ∧ w'.cell? ⟨g, 1, none⟩ = some (.int .i64 pos) ∧ w'.cell? ⟨g, 4, none⟩ = some (.int .i64 M.sz) ∧ w'.cell? ⟨g, 5, none⟩ = some (.int .i64 M.vs) ∧ w'.cell? ⟨g, 6, none⟩ = some (.int .i64 M.here) ∧ Moved w g s M pos deep w')
    (first | exact keep78 hm0 | exact keep78 hm0.drew | exact keep78 (by assumption) | exact keep78 (Moved.below (w1 := w.drew) hm0.drew (by assumption)))
    (first | (go_at_call 56; refine (c56 g s _ _ ?_ hsz).mono ?_; (simp [*]); rintro e w' ⟨rfl, rfl⟩) | (go_at_call 28; refine (c28n HU.out _ _ k1 k2).mono ?_; rintro e w1 ⟨rfl, hbel⟩))
  have hm1 : Moved w g s M pos deep w1 := Moved.below (w1 := w.drew) hm0.drew hbel
  have q1 := hm1.1.c1
  have q3 := hm1.1.c3
  have qf := hm1.1.fz 1
  go_wp2
  go_ret
  exact ⟨rfl, hm1⟩

theorem c78 (g : Nat) (s : ByteArray) (M : Md) (pos deep : Nat) (w : World) (h : Rd w g s M pos deep) (hs : s.size ≤ 100000) (hp : pos ≤ s.size) (hM : M.okay) :
    Calls Tryd.prog 78 #[.pointer (some ⟨g, 0, none⟩)] w fun e w' => e = .returned (.int .i64 ((unitF (bt s pos) M.sz M.vs).getD M.one)) ∧ Moved w g s M (pos + (if (unitF (bt s pos) M.sz M.vs).isSome then 1 else 0)) deep w' := by
  rcases hu : unitF (bt s pos) M.sz M.vs with _ | n
  · exact c78n g s M pos deep w h hs hp hM hu
  · exact c78s g s M pos deep n w h hs hp hM hu

/-- 57: sign. -/
theorem c57n (g : Nat) (n : Int) (w : World) (hn : within n = true) : Calls Tryd.prog 57 #[.pointer (some ⟨g, 0, none⟩), .int .u8 45, .int .i64 n] w fun e w' => e = .returned (.int .i64 (-n)) ∧ w = w' := by
  have hb := within_iff.1 hn
  go_enter Tryd.func57, Tryd.ntmps57
  go_wp2
  go_ret
  exact ⟨rfl, rfl⟩
theorem c57x (g : Nat) (c : Nat) (n : Int) (w : World) (h1 : ((c : Int) == 45) = false) (h2 : ((c : Int) == 33) = false) (h3 : ((c : Int) == 124) = false) : Calls Tryd.prog 57 #[.pointer (some ⟨g, 0, none⟩), .int .u8 c, .int .i64 n] w fun e w' => e = .returned (.int .i64 n) ∧ w = w' := by
  go_enter Tryd.func57, Tryd.ntmps57
  go_wp2
  go_ret
  exact ⟨rfl, rfl⟩
theorem within_truth (b : Bool) : within (truthI b) = true := by cases b <;> decide
theorem c57bf (g : Nat) (n : Int) (w : World) (h7 : w.cell? ⟨g, 7, none⟩ = some (.bool true)) : Calls Tryd.prog 57 #[.pointer (some ⟨g, 0, none⟩), .int .u8 33, .int .i64 n] w fun e w' => e = .returned (.int .i64 0) ∧ w = w' := by
  go_enter Tryd.func57, Tryd.ntmps57
  go_wp2_with (first | (go_at_call 75; refine (c75 _ _).mono ?_; rintro e w' ⟨rfl, rfl⟩) | (go_at_call 73; refine (c73f _ _ _ h7).mono ?_; rintro e w' ⟨rfl, rfl⟩))
  go_ret
  exact ⟨rfl, rfl⟩
theorem c57b (g : Nat) (n : Int) (w : World) (h7 : w.cell? ⟨g, 7, none⟩ = some (.bool false)) : Calls Tryd.prog 57 #[.pointer (some ⟨g, 0, none⟩), .int .u8 33, .int .i64 n] w fun e w' => e = .returned (.int .i64 (truthI (decide (n ≤ 0)))) ∧ w = w' := by
  go_enter Tryd.func57, Tryd.ntmps57
  go_wp2_with (first | (go_at_call 75; refine (c75 _ _).mono ?_; rintro e w' ⟨rfl, rfl⟩) | (go_at_call 73; refine (c73 _ _ _ h7 (within_truth _)).mono ?_; rintro e w' ⟨rfl, rfl⟩))
  go_ret
  exact ⟨rfl, rfl⟩
theorem c57hf (g : Nat) (n here : Int) (w : World) (h7 : w.cell? ⟨g, 7, none⟩ = some (.bool true)) (h6 : w.cell? ⟨g, 6, none⟩ = some (.int .i64 here)) : Calls Tryd.prog 57 #[.pointer (some ⟨g, 0, none⟩), .int .u8 124, .int .i64 n] w fun e w' => e = .returned (.int .i64 0) ∧ w = w' := by
  go_enter Tryd.func57, Tryd.ntmps57
  go_wp2_with (go_at_call 73; refine (c73f _ _ _ h7).mono ?_; rintro e w' ⟨rfl, rfl⟩)
  go_ret
  exact ⟨rfl, rfl⟩
theorem c57h (g : Nat) (n here : Int) (w : World) (h7 : w.cell? ⟨g, 7, none⟩ = some (.bool false)) (h6 : w.cell? ⟨g, 6, none⟩ = some (.int .i64 here)) (hn : within n = true) (hh : within here = true) (hd : within (n - here) = true) : Calls Tryd.prog 57 #[.pointer (some ⟨g, 0, none⟩), .int .u8 124, .int .i64 n] w fun e w' => e = .returned (.int .i64 (n - here)) ∧ w = w' := by
  have hb := within_iff.1 hn
  have hb2 := within_iff.1 hh
  go_enter Tryd.func57, Tryd.ntmps57
  go_wp2_with (go_at_call 73; refine (c73 _ _ _ h7 hd).mono ?_; rintro e w' ⟨rfl, rfl⟩)
  go_ret
  exact ⟨rfl, rfl⟩
theorem c57hx (g : Nat) (n here : Int) (w : World) (h7 : w.cell? ⟨g, 7, none⟩ = some (.bool false)) (h6 : w.cell? ⟨g, 6, none⟩ = some (.int .i64 here)) (hn : within n = true) (hh : within here = true) (hd : within (n - here) = false) : Calls Tryd.prog 57 #[.pointer (some ⟨g, 0, none⟩), .int .u8 124, .int .i64 n] w fun e w' => e = thrown 5 ∧ w = w' := by
  have hb := within_iff.1 hn
  have hb2 := within_iff.1 hh
  go_enter Tryd.func57, Tryd.ntmps57
  go_wp2_with (go_at_call 73; refine (c73x _ _ _ h7 hd).mono ?_; rintro e w' ⟨rfl, rfl⟩)
  exact ⟨rfl, rfl, rfl⟩
end Go.Proofs.YtonhglhdbpmnhaaDoor
