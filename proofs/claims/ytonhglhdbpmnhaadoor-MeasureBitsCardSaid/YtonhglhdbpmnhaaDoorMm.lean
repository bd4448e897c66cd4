/- Walks of package measure: the longest beginning, Prefix, Change. -/
import Derived.Test.YtonhglhdbpmnhaaDoorMl
import Derived.Deep.RegionHeld3
namespace Go.Proofs.YtonhglhdbpmnhaaDoor
open Go.RowKit

/-- A context lies boxed. -/
def BC (t : TypeId) (sz vs here : Int) (w w' : World) : Prop := Blk w' w.heap.size t #[.int .i64 sz, .int .i64 vs, .int .i64 here] ∧ Below w.heap.size w w'
section
variable {t : TypeId} {sz vs here : Int} {w w1 w2 : World}
theorem BC.init (t : TypeId) (sz vs here : Int) (w : World) : BC t sz vs here w (w.alloc (.cells #[.int .i64 sz, .int .i64 vs, .int .i64 here] t)) := ⟨Blk.new _ _ _, (Below.refl _ _).alloc (Nat.le_refl _) _⟩
theorem BC.below (h : BC t sz vs here w w1) (hb : Below w1.heap.size w1 w2) : BC t sz vs here w w2 := ⟨Blk.below h.1 hb (Blk.lt h.1), h.2.trans (hb.mono h.2.size)⟩
theorem BC.drew (h : BC t sz vs here w w1) : BC t sz vs here w w1.drew := ⟨h.1, h.2.drew⟩
theorem BC.alloc (h : BC t sz vs here w w1) (o : Obj) : BC t sz vs here w (w1.alloc o) := ⟨Blk.alloc h.1 o, h.2.alloc h.2.size o⟩
theorem BC.keep (h : BC t sz vs here w w1) : w1.cell? ⟨w.heap.size, 0, none⟩ = some (.int .i64 sz) ∧ w1.cell? ⟨w.heap.size, 1, none⟩ = some (.int .i64 vs) ∧ w1.cell? ⟨w.heap.size, 2, none⟩ = some (.int .i64 here) ∧ BC t sz vs here w w1 :=
  ⟨Blk.cell h.1 0, Blk.cell h.1 1, Blk.cell h.1 2, h⟩
end
theorem ext_size (s : ByteArray) (a b : Nat) (hs : s.size ≤ 100000) : (s.extract a b).size ≤ 100000 := by
  simp [ByteArray.size_extract]; omega

theorem ev_sum (s : ByteArray) (M : Md) (f i deep : Nat) : ev s M (f + 1) (.sum i deep) = (match ev s M f (.opd i deep) with | none => none | some (.err e) => some (.err e) | some (.ok n to) => ev s M f (.loop n to deep)) := rfl
/-- What the loop over operands comes to, in form only. -/
theorem loop_form {s : ByteArray} : ∀ {f p : Nat} {n : Int} {r : Res}, ev s M0 f (.loop n p 0) = some r → ∃ m q, r = .ok m q := by
  intro f
  induction f with
  | zero => intro p n r h; cases h
  | succ f ih =>
    intro p n r h
    simp only [ev] at h
    by_cases h13 : opIx s (skp s 0 p) = 13
    · rw [if_pos h13] at h; cases h; exact ⟨_, _, rfl⟩
    · rw [if_neg h13] at h
      rcases hs : ev s M0 f (.opd (skp s 0 p + (opS (opIx s (skp s 0 p))).size) 0) with _ | r1
      · rw [hs] at h; cases h
      rw [hs] at h
      rcases r1 with ⟨b, t⟩ | x
      · exact ih h
      · simp only at h
        rw [if_pos (by refine ⟨rfl, ?_⟩; first | rfl | trivial)] at h
        cases h; exact ⟨_, _, rfl⟩
theorem M0_okay : M0.okay := by unfold Md.okay M0; decide
def R37 (s : ByteArray) (g E : Nat) (w0 : World) (v2 v4 : Value) (wr : World) : Prop :=
  ∃ en : Nat, v2 = .int .i64 en ∧ ((v4 = .bool false ∧ en = E ∧ w0.grownBy wr (some g)) ∨ (v4 = .bool true ∧ ∃ f p q, Moved w0 g s M0 p 0 wr ∧ p ≤ s.size ∧ ev s M0 f (.opd p 0) = some q ∧
    (match q with | .err _ => en = E | .ok _n to => ∃ f' m n0, ev s M0 f' (.loop n0 to 0) = some (.ok m E))))
set_option maxRecDepth 100000 in
/-- 37: beginning. -/
theorem c37 (s : ByteArray) (hs : s.size ≤ 100000) (w : World) (hO : OpsAt w) :
    Calls Tryd.prog 37 #[.string s] w fun e w' => e = .returned (.int .i64 (begF s)) ∧ Below w.heap.size w w' := by
  have hE := evT_eq s M0
  have hst : ∃ f q, ev s M0 f (.opd 0 0) = some q ∧ (match q with | .err _ => 0 = begF s | .ok n to => ∃ f' m n0, ev s M0 f' (.loop n0 to 0) = some (.ok m (begF s))) := by
    rw [show fuel s = 3 * s.size + 4 + 1 from rfl, ev_sum] at hE
    rcases hov : ev s M0 (3 * s.size + 4) (.opd 0 0) with _ | r1
    · rw [hov] at hE; cases hE
    rw [hov] at hE
    refine ⟨_, r1, hov, ?_⟩
    rcases r1 with ⟨n, to⟩ | x
    · simp only at hE ⊢
      obtain ⟨m, q, hq⟩ := loop_form hE
      rw [hq] at hE
      refine ⟨3 * s.size + 4, m, n, ?_⟩
      rw [hE]
      unfold begF
      rw [hq]
    · simp only at hE ⊢
      unfold begF
      injection hE with hE
      rw [← hE]
  obtain ⟨f0, q0, hq0, hst⟩ := hst
  generalize begF s = E at hst ⊢
  have HQ := Lib.hid hq0
  have HST := Lib.hid hst
  have hgs : w.heap.size ≠ 0 := by have := hO.lt; omega
  clear hE hst hq0
  go_enter_defers Tryd.func37, Tryd.ntmps37
  go_wp2
  have hr0 : Rd (w.alloc (.cells #[.string s, .int .i64 0, .int .i64 0, .int .i64 0, .int .i64 0, .int .i64 0, .int .i64 0, .bool true] 83)) w.heap.size s M0 0 0 := Blk.new _ _ _
  have hO0 := hO.alloc (.cells #[.string s, .int .i64 0, .int .i64 0, .int .i64 0, .int .i64 0, .int .i64 0, .int .i64 0, .bool true] 83)
  have hb0 : Below w.heap.size w (w.alloc (.cells #[.string s, .int .i64 0, .int .i64 0, .int .i64 0, .int .i64 0, .int .i64 0, .int .i64 0, .bool true] 83)) := (Below.refl _ _).alloc (Nat.le_refl _) _
  go_loopw [2, 4] (fun v2 v4 wr => R37 s w.heap.size E (w.alloc (.cells #[.string s, .int .i64 0, .int .i64 0, .int .i64 0, .int .i64 0, .int .i64 0, .int .i64 0, .bool true] 83)) v2 v4 wr) (fun _ _ wr => s.size - posOf wr w.heap.size)
  case atStart => exact ⟨0, rfl, .inr ⟨rfl, f0, 0, q0, Moved.refl hr0, by omega, HQ.out, HST.out⟩⟩
  case round =>
    obtain ⟨en, rfl, hst⟩ := hrel
    rcases hst with ⟨rfl, hen, hgr⟩ | ⟨rfl, f, p, q, hm, hp, hq, hres⟩
    · subst hen
      go_wp2_with fail
      refine leaves_cons (f := 55) (args := #[]) (by simp) (by simp [go_sem]) ?_
      refine (c55r _).mono ?_
      rintro e u' w'' ⟨rfl, rfl, rfl⟩
      exact ⟨_, results_tmp rfl _ _ _, rfl, below_grown hb0 (Nat.le_refl _) hgr⟩
    · have hP := (c_ev w.heap.size hgs s hs M0 M0_okay f).1 p 0 q hq hp (by omega) wr hm.1 (hO0.moved hgs hm)
      have hw1 := hm.1.c1
      have hm0 := hm
      rcases q with ⟨n, to⟩ | x
      · obtain ⟨f', m, n0, hev⟩ := hres
        have hok := ev_ok _ _ _ _ _ _ hq hp
        obtain ⟨_, hpt, hts⟩ := hok
        have HP := Lib.hid hP
        rcases f' with _ | f'
        · cases hev
        simp only [ev] at hev
        have h53 := c53 w.heap.size s M0 to 0
        rw [skp_zero] at h53
        rw [skp_zero] at hev
        have hop := opIx_le s to
        by_cases h13 : opIx s to = 13
        · rw [if_pos h13] at hev
          cases hev
          rw [h13] at h53
          have H53 := Lib.hid h53
          have he := opS_empty
          clear hP hq h53 h13 hop
          go_wp2_with (first
            | (go_at_call 52; refine HP.out.mono ?_; rintro e w2 ⟨rfl, hm2⟩; have k1 := hm2.1.c1)
            | (go_at_call 53; refine (H53.out _ hm2.1 (hO0.moved hgs (hm0.trans hm2)) hgs hs hts (by omega)).mono ?_; rintro e w3 ⟨rfl, hm3⟩))
          have hmn := (hm0.trans hm2).trans hm3
          go_roundw
          case rel => exact ⟨_, rfl, .inl ⟨rfl, rfl, hmn.2⟩⟩
          case measure =>
            rw [posOf_ _ _ _ hw1, posOf_ _ _ _ hmn.1.c1]
            omega
        · rw [if_neg h13] at hev
          have hj : opIx s to < 13 := by omega
          have hne := opS_some hj
          have oe := op_end (s := s) (deep := 0) (i := to) (by rw [skp_zero]; exact h13)
          rw [skp_zero] at oe
          generalize opIx s to = j at h53 hev hj hne oe h13 hop
          have H53 := Lib.hid h53
          have hnx : ∃ f q, ev s M0 f (.opd (to + (opS j).size) 0) = some q ∧ (match q with | .err _ => to = E | .ok n to => ∃ f' m n0, ev s M0 f' (.loop n0 to 0) = some (.ok m E)) := by
            rcases hov : ev s M0 f' (.opd (to + (opS j).size) 0) with _ | r1
            · rw [hov] at hev; cases hev
            rw [hov] at hev
            refine ⟨f', r1, hov, ?_⟩
            rcases r1 with ⟨b, t⟩ | x
            · have hrk : rk M0.fm j n0 b = .val 0 := rfl
              simp only [hrk] at hev ⊢
              exact ⟨f', m, 0, hev⟩
            · simp only at hev ⊢
              rw [if_pos (by refine ⟨rfl, ?_⟩; first | rfl | trivial)] at hev
              cases hev; rfl
          have HNX := Lib.hid hnx
          clear hP hq h53 h13 hop hev hnx
          go_wp2_with (first
            | (go_at_call 52; refine HP.out.mono ?_; rintro e w2 ⟨rfl, hm2⟩; have k1 := hm2.1.c1)
            | (go_at_call 53; refine (H53.out _ hm2.1 (hO0.moved hgs (hm0.trans hm2)) hgs hs hts (by omega)).mono ?_; rintro e w3 ⟨rfl, hm3⟩))
          have hmn := (hm0.trans hm2).trans hm3
          obtain ⟨f2, q2, h2, h3⟩ := HNX.out
          go_roundw
          case rel => exact ⟨to, rfl, .inr ⟨rfl, f2, _, q2, hmn, oe.1, h2, h3⟩⟩
          case measure =>
            rw [posOf_ _ _ _ hw1, posOf_ _ _ _ hmn.1.c1]
            omega
      · simp only at hres
        subst hres
        have HP := Lib.hid hP
        clear hP hq
        go_wp2_with (first
          | (go_at_call 52; refine HP.out.mono ?_; rintro e w2 ⟨rfl, hm2⟩))
        refine leaves_cons (f := 55) (args := #[]) (by simp) (by simp [go_sem]) ?_
        refine (c55p _ _).mono ?_
        rintro e u' w'' ⟨rfl, rfl, rfl⟩
        exact ⟨_, results_tmp rfl _ _ _, rfl, below_grown hb0 (Nat.le_refl _) (only_trans hm0.2 hm2)⟩

set_option maxRecDepth 100000 in
/-- 20: Prefix. -/
theorem c20 (s : ByteArray) (hs : s.size ≤ 100000) (c : Nat) (sz vs here : Int) (w : World) (hO : OpsAt w) :
    Calls Tryd.prog 20 #[.string s, .int .u8 c, .agg #[.int .i64 sz, .int .i64 vs, .int .i64 here]] w fun e w' => e = .returned (.tuple #[.int .i64 (prefixA s c sz vs here).1, .int .i64 (prefixA s c sz vs here).2.1, .int .i64 (prefixA s c sz vs here).2.2]) ∧ Below w.heap.size w w' := by
  have hbl : begF s ≤ s.size := by
    have hE := evT_eq s M0
    unfold begF
    rcases hv : evT s M0 with ⟨n, to⟩ | x
    · rw [hv] at hE
      exact (ev_ok _ _ _ _ _ _ hE (by omega)).2.2
    · exact Nat.zero_le _
  have h18 := fun w hO => c18 (s.extract 0 (begF s)) (ext_size s 0 (begF s) hs) c sz vs here w hO
  have h37 := fun w hO => c37 s hs w hO
  unfold prefixA
  generalize begF s = E at h18 h37 hbl ⊢
  generalize hA : evalA (s.extract 0 E) c sz vs here = A at h18 ⊢
  obtain ⟨a1, a2⟩ := A
  have H18 := Lib.hid h18
  have H37 := Lib.hid h37
  clear hA h18 h37
  simp only
  by_cases h0 : a2 = 0
  · subst h0
    simp only [if_true]
    go_enter Tryd.func20, Tryd.ntmps20
    go_wp2_with (first
      | (go_at_call 37; refine (H37.out _ (hO.alloc _)).mono ?_; rintro e w1 ⟨rfl, hb1⟩; have hr := (BC.init 23 sz vs here w).below hb1))
    go_region_held3 (fun w' => w'.cell? ⟨w.heap.size, 0, none⟩ = some (.int .i64 sz) ∧ w'.cell? ⟨w.heap.size, 1, none⟩ = some (.int .i64 vs) ∧ w'.cell? ⟨w.heap.size, 2, none⟩ = some (.int .i64 here) ∧ BC 23 sz vs here w w')
      (first | exact BC.keep hr | exact BC.keep hr.drew | exact BC.keep (BC.below hr.drew hbe))
      (first | (go_at_call 18; refine (H18.out _ ((hO.below hr.2).grown (g := 1) (by omega) (only_of_below (Below.refl _ _).drew _))).mono ?_; rintro e we ⟨rfl, hbe⟩))
    have hre := BC.below hr.drew hbe
    go_wp2_with fail
    go_ret3
    exact ⟨rfl, hre.2⟩
  · rw [if_neg h0]
    have e0 : (a2 != 0) = true := by simpa using h0
    go_enter Tryd.func20, Tryd.ntmps20
    go_wp2_with (first
      | (go_at_call 37; refine (H37.out _ (hO.alloc _)).mono ?_; rintro e w1 ⟨rfl, hb1⟩; have hr := (BC.init 23 sz vs here w).below hb1))
    go_region_held3 (fun w' => w'.cell? ⟨w.heap.size, 0, none⟩ = some (.int .i64 sz) ∧ w'.cell? ⟨w.heap.size, 1, none⟩ = some (.int .i64 vs) ∧ w'.cell? ⟨w.heap.size, 2, none⟩ = some (.int .i64 here) ∧ BC 23 sz vs here w w')
      (first | exact BC.keep hr | exact BC.keep hr.drew | exact BC.keep (BC.below hr.drew hbe))
      (first | (go_at_call 18; refine (H18.out _ ((hO.below hr.2).grown (g := 1) (by omega) (only_of_below (Below.refl _ _).drew _))).mono ?_; rintro e we ⟨rfl, hbe⟩))
    have hre := BC.below hr.drew hbe
    go_wp2_with fail
    go_ret3
    exact ⟨rfl, hre.2⟩
end Go.Proofs.YtonhglhdbpmnhaaDoor
