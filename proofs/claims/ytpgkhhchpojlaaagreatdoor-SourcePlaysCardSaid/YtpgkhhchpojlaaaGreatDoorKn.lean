/- Walk of the document's stack: Shift, where there are fewer arguments. -/
import Derived.Test.YtpgkhhchpojlaaaGreatDoorKk
namespace Go.Proofs.YtpgkhhchpojlaaaGreatDoor
open Go.RowKit Go.Maps Go.WideMaps

section
variable {U K : Nat → Prop} {w w' : World} {x : Nat} {fs : List Fr}
set_option maxRecDepth 100000 in
set_option maxHeartbeats 1600000 in
/-- Shift. -/
theorem nShiftC (n : Int) (h : RKt U K w x fs) (h1 : ¬ n < 0) (h2 : ¬ 100 < n) (h0 : ¬ macN fs = 0) (hcase : ¬ n ≤ ((frI fs (macN fs - 1)).args.length : Nat) ∧ 0 < (frI fs (macN fs - 1)).args.length) :
    Calls Tryz.prog 31 #[.pointer (some ⟨x, 0, none⟩), .int .i64 n] w fun e w' => e = .returned (.int .i64 (shE fs n)) ∧ KTo U K w w' x (shF fs n) := by
  have h3 : ¬ (n < 0 ∨ 100 < n) := by omega
  have hL : frI fs (macN fs - 1) = frI fs (macN fs - 1) := rfl
  have HN := Lib.hid (nNo h)
  have HT : Hid (Calls Tryz.prog 64 #[.pointer (some ⟨x, 0, none⟩), .int .i64 2] w fun e w' => e = .returned (.int .i64 ((macN fs : Nat) - 1 : Int)) ∧ w = w') := Lib.hid (nTop 2 h)
  have hle : macN fs ≤ fs.length := topN_le fs
  have hlen := h.ok.1
  unfold shE shF
  rw [if_neg h3, if_neg h3, if_neg h0, if_neg h0]
  obtain ⟨q, hq⟩ : ∃ q, macN fs = q + 1 := ⟨macN fs - 1, by omega⟩
  rw [hq] at HT hle ⊢
  rw [show ((q + 1 : Nat) : Int) - 1 = (q : Int) by omega] at HT
  rw [hq, Nat.add_sub_cancel] at hcase
  rw [Nat.add_sub_cancel]
  obtain ⟨zs, g, cap, z, A, c, hR, rfl, hz, hfz, hz2, hss, hcap, hfr⟩ := h.mac hle
  rw [List.length_map] at hle hlen
  have hb1 := ((Below.refl w.heap.size w).alloc (Nat.le_refl _) (.cells #[] 9))
  have hR1 := hR.below hb1
  have c1 := hR.c1
  have d3 := (hR.cells hz).2.2.2.1
  have d3' := (hR1.cells hz).2.2.2.1
  rw [hz2] at d3 d3'
  have hok := hR.okAt hz
  have hlc : z.1.args.length ≤ c := by
    obtain ⟨A', c', e, hc, _⟩ := hss
    injection e with _ _ e
    rw [e]; exact hc
  have hargs := hok.args
  rw [hfr] at hcase
  clear hR1 hfz hfr h3 h0 hq hL
  obtain ⟨m, rfl⟩ : ∃ m : Nat, n = m := ⟨n.toNat, by omega⟩
  rw [show ((m : Nat) : Int).toNat = m from rfl]
  obtain ⟨hml, hl0⟩ := hcase
  have hmi2 : (z.1.args.length < m) = True := eq_true (by omega)
  have hdr : z.1.args.drop m = z.1.args.drop z.1.args.length := by rw [List.drop_of_length_le (by omega), List.drop_of_length_le (Nat.le_refl _)]
  obtain ⟨ga, off, hA⟩ : ∃ ga off, A = some ⟨ga, off, none⟩ := by
    obtain ⟨A', c', e, _, _, hr⟩ := hss
    obtain ⟨g', off', e', _⟩ := hr hl0
    injection e with e
    exact ⟨g', off', e.trans e'⟩
  subst hA
  by_cases hck : c = z.1.args.length
  · have hsd := SsAt.drop (w := w) (k := z.1.args.length) rfl hss (Nat.le_refl _)
    rw [if_pos hck] at hsd
    rw [hck, Nat.sub_self] at hsd
    rw [hck] at hz2 d3 d3'
    obtain ⟨A3, c3, w3, qrun, hss3, hb3, -⟩ := runSs w.drew 36 (some ⟨ga, off, none⟩) 0 0 (z.1.args.drop z.1.args.length) hsd (by rw [List.length_drop]; have := hok.args; omega)
    obtain ⟨hkt, hfz3, hc3⟩ := hR.shift (n := m) hz (Below.refl w.heap.size w).drew hb3 (by rw [show z.1.args.drop m = z.1.args.drop z.1.args.length from hdr]; exact hss3)
    rw [hz2] at hc3
    have HKT := Lib.hid hkt
    clear hkt hz2 hss3 hb3 hsd hdr hss hR hz h hok hlc hargs hcap
    go_enter Tryz.func31, Tryz.ntmps31
    go_wp2_with (first
      | (go_at_call 43; refine HN.out.mono ?_; rintro e w1 ⟨rfl, rfl⟩)
      | (go_at_call 64; refine HT.out.mono ?_; rintro e w1 ⟨rfl, rfl⟩))
    clear h1 h2 hle hlen HN HT
    go_region_law
      (refine step_run2 rfl (.tmp 28) (.tmp 40) 36 ⟨?_, ?_⟩; rfl; refine Exists.intro _ (Exists.intro _ (And.intro qrun ?_)))
    all_goals
      go_wp2_with fail
      go_ret
      exact ⟨rfl, HKT.out⟩
  · have hsd := SsAt.drop (w := w) (k := z.1.args.length) rfl hss (Nat.le_refl _)
    rw [if_neg hck] at hsd
    rw [Nat.sub_self] at hsd
    obtain ⟨A3, c3, w3, qrun, hss3, hb3, -⟩ := runSs w.drew 36 (some ⟨ga, off + z.1.args.length, none⟩) 0 (c - z.1.args.length) (z.1.args.drop z.1.args.length) hsd (by rw [List.length_drop]; have := hok.args; omega)
    obtain ⟨hkt, hfz3, hc3⟩ := hR.shift (n := m) hz (Below.refl w.heap.size w).drew hb3 (by rw [show z.1.args.drop m = z.1.args.drop z.1.args.length from hdr]; exact hss3)
    rw [hz2] at hc3
    have HKT := Lib.hid hkt
    clear hkt hz2 hss3 hb3 hsd hdr hss hR hz h hok hlc hargs hcap
    go_enter Tryz.func31, Tryz.ntmps31
    go_wp2_with (first
      | (go_at_call 43; refine HN.out.mono ?_; rintro e w1 ⟨rfl, rfl⟩)
      | (go_at_call 64; refine HT.out.mono ?_; rintro e w1 ⟨rfl, rfl⟩))
    clear h1 h2 hle hlen HN HT
    go_region_law
      (refine step_run2 rfl (.tmp 28) (.tmp 40) 36 ⟨?_, ?_⟩; rfl; refine Exists.intro _ (Exists.intro _ (And.intro qrun ?_)))
    all_goals
      go_wp2_with fail
      go_ret
      exact ⟨rfl, HKT.out⟩
set_option maxRecDepth 100000 in
set_option maxHeartbeats 1600000 in
/-- Shift. -/
theorem nShiftD (n : Int) (h : RKt U K w x fs) (h1 : ¬ n < 0) (h2 : ¬ 100 < n) (h0 : ¬ macN fs = 0) (hcase : ¬ n ≤ ((frI fs (macN fs - 1)).args.length : Nat) ∧ ¬ 0 < (frI fs (macN fs - 1)).args.length) :
    Calls Tryz.prog 31 #[.pointer (some ⟨x, 0, none⟩), .int .i64 n] w fun e w' => e = .returned (.int .i64 (shE fs n)) ∧ KTo U K w w' x (shF fs n) := by
  have h3 : ¬ (n < 0 ∨ 100 < n) := by omega
  have hL : frI fs (macN fs - 1) = frI fs (macN fs - 1) := rfl
  have HN := Lib.hid (nNo h)
  have HT : Hid (Calls Tryz.prog 64 #[.pointer (some ⟨x, 0, none⟩), .int .i64 2] w fun e w' => e = .returned (.int .i64 ((macN fs : Nat) - 1 : Int)) ∧ w = w') := Lib.hid (nTop 2 h)
  have hle : macN fs ≤ fs.length := topN_le fs
  have hlen := h.ok.1
  unfold shE shF
  rw [if_neg h3, if_neg h3, if_neg h0, if_neg h0]
  obtain ⟨q, hq⟩ : ∃ q, macN fs = q + 1 := ⟨macN fs - 1, by omega⟩
  rw [hq] at HT hle ⊢
  rw [show ((q + 1 : Nat) : Int) - 1 = (q : Int) by omega] at HT
  rw [hq, Nat.add_sub_cancel] at hcase
  rw [Nat.add_sub_cancel]
  obtain ⟨zs, g, cap, z, A, c, hR, rfl, hz, hfz, hz2, hss, hcap, hfr⟩ := h.mac hle
  rw [List.length_map] at hle hlen
  have hb1 := ((Below.refl w.heap.size w).alloc (Nat.le_refl _) (.cells #[] 9))
  have hR1 := hR.below hb1
  have c1 := hR.c1
  have d3 := (hR.cells hz).2.2.2.1
  have d3' := (hR1.cells hz).2.2.2.1
  rw [hz2] at d3 d3'
  have hok := hR.okAt hz
  have hlc : z.1.args.length ≤ c := by
    obtain ⟨A', c', e, hc, _⟩ := hss
    injection e with _ _ e
    rw [e]; exact hc
  have hargs := hok.args
  rw [hfr] at hcase
  clear hR1 hfz hfr h3 h0 hq hL
  obtain ⟨m, rfl⟩ : ∃ m : Nat, n = m := ⟨n.toNat, by omega⟩
  rw [show ((m : Nat) : Int).toNat = m from rfl]
  obtain ⟨hml, hl0⟩ := hcase
  have hmi2 : (z.1.args.length < m) = True := eq_true (by omega)
  have hdr : z.1.args.drop m = z.1.args.drop z.1.args.length := by rw [List.drop_of_length_le (by omega), List.drop_of_length_le (Nat.le_refl _)]
  have hl00 : z.1.args.length = 0 := by omega
  rw [hl00] at d3 d3' hz2 hss hmi2 hdr
  have hsd0 : ∀ (X : Option Addr) (cc : Nat), cc ≤ maxLen → SsAt K w (.slice X 0 cc) (z.1.args.drop 0) := fun X cc hcc => by
    rw [List.drop_zero, List.eq_nil_of_length_eq_zero hl00]
    exact ⟨X, cc, rfl, Nat.zero_le _, hcc, fun h => absurd h (Nat.lt_irrefl 0)⟩
  have hcm : c ≤ maxLen := by
    obtain ⟨A', c', e, _, hc, _⟩ := hss
    injection e with _ _ e
    rw [e]; exact hc
  cases A with
  | none =>
    obtain ⟨A3, c3, w3, qrun, hss3, hb3, -⟩ := runSs w.drew 36 none 0 c (z.1.args.drop 0) (hsd0 _ _ hcm) (by rw [List.length_drop]; have := hok.args; omega)
    obtain ⟨hkt, hfz3, hc3⟩ := hR.shift (n := m) hz (Below.refl w.heap.size w).drew hb3 (by rw [show z.1.args.drop m = z.1.args.drop 0 from hdr]; exact hss3)
    rw [hz2] at hc3
    have HKT := Lib.hid hkt
    clear hkt hz2 hss3 hb3 hsd0 hcm hl00 hdr hss hR hz h hok hlc hargs hcap
    go_enter Tryz.func31, Tryz.ntmps31
    go_wp2_with (first
      | (go_at_call 43; refine HN.out.mono ?_; rintro e w1 ⟨rfl, rfl⟩)
      | (go_at_call 64; refine HT.out.mono ?_; rintro e w1 ⟨rfl, rfl⟩))
    clear h1 h2 hle hlen HN HT
    go_region_law
      (refine step_run2 rfl (.tmp 28) (.tmp 40) 36 ⟨?_, ?_⟩; rfl; refine Exists.intro _ (Exists.intro _ (And.intro qrun ?_)))
    all_goals
      go_wp2_with fail
      go_ret
      exact ⟨rfl, HKT.out⟩
  | some a =>
    obtain ⟨A3, c3, w3, qrun, hss3, hb3, -⟩ := runSs w.drew 36 (some a) 0 c (z.1.args.drop 0) (hsd0 _ _ hcm) (by rw [List.length_drop]; have := hok.args; omega)
    obtain ⟨hkt, hfz3, hc3⟩ := hR.shift (n := m) hz (Below.refl w.heap.size w).drew hb3 (by rw [show z.1.args.drop m = z.1.args.drop 0 from hdr]; exact hss3)
    rw [hz2] at hc3
    have HKT := Lib.hid hkt
    clear hkt hz2 hss3 hb3 hsd0 hcm hl00 hdr hss hR hz h hok hlc hargs hcap
    go_enter Tryz.func31, Tryz.ntmps31
    go_wp2_with (first
      | (go_at_call 43; refine HN.out.mono ?_; rintro e w1 ⟨rfl, rfl⟩)
      | (go_at_call 64; refine HT.out.mono ?_; rintro e w1 ⟨rfl, rfl⟩))
    clear h1 h2 hle hlen HN HT
    go_region_law
      (refine step_run2 rfl (.tmp 28) (.tmp 40) 36 ⟨?_, ?_⟩; rfl; refine Exists.intro _ (Exists.intro _ (And.intro qrun ?_)))
    all_goals
      go_wp2_with fail
      go_ret
      exact ⟨rfl, HKT.out⟩
end
end Go.Proofs.YtpgkhhchpojlaaaGreatDoor
