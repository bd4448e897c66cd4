/- Walks of the document's stack: Args, Shift. -/
import Derived.Test.YtpgkhhchpojlaaaGreatDoorKz
import Derived.Test.YtpgkhhchpojlaaaGreatDoorKf
import Derived.Test.YtpgkhhchpojlaaaGreatDoorKi
namespace Go.Proofs.YtpgkhhchpojlaaaGreatDoor
open Go.RowKit Go.Maps Go.WideMaps

section
variable {U K : Nat → Prop} {w w' : World} {x : Nat} {fs : List Fr}
/-- The topmost macro's frame. -/
theorem RKt.mac {n : Nat} (h : RKt U K w x fs) (hn : n + 1 ≤ fs.length) : ∃ zs g cap z A c, RK U K w x zs (.slice (some ⟨g, 0, none⟩) zs.length cap) ∧ zs.map (fun z : Fv => z.1) = fs ∧ zs[n]? = some z ∧ fs[n]? = some z.1 ∧ z.2.2 = .slice A z.1.args.length c ∧ SsAt K w (.slice A z.1.args.length c) z.1.args ∧ zs.length ≤ cap ∧ frI fs n = z.1 := by
  obtain ⟨zs, v, h, rfl⟩ := h
  rw [List.length_map] at hn
  obtain ⟨g, cap, rfl, hc, _, _⟩ := own_pos h.own (by omega)
  have hz := List.getElem?_eq_getElem (show n < zs.length by omega)
  have hh := (h.hold _ (List.mem_of_getElem? hz)).2
  obtain ⟨A, c, e, _⟩ := id hh
  rw [e] at hh
  exact ⟨zs, g, cap, _, A, c, h, rfl, hz, get_fr hz, e, hh, hc, frI_at (get_fr hz)⟩
set_option maxRecDepth 100000 in
/-- Args. -/
theorem nArgs (h : RKt U K w x fs) :
    Calls Tryz.prog 35 #[.pointer (some ⟨x, 0, none⟩)] w fun e w' => ∃ A n c, e = .returned (.slice A n c) ∧ SsAt (fun k => w.heap.size ≤ k ∧ k < w'.heap.size) w' (.slice A n c) (agL fs) ∧ Below w.heap.size w w' := by
  have HT : Hid (Calls Tryz.prog 64 #[.pointer (some ⟨x, 0, none⟩), .int .i64 2] w fun e w' => e = .returned (.int .i64 ((macN fs : Nat) - 1 : Int)) ∧ w = w') := Lib.hid (nTop 2 h)
  have hle : macN fs ≤ fs.length := topN_le fs
  have hlen := h.ok.1
  unfold agL
  by_cases h0 : macN fs = 0
  · rw [if_pos h0]
    rw [h0] at HT
    clear h
    go_enter Tryz.func35, Tryz.ntmps35
    go_wp2_with (go_at_call 64; refine HT.out.mono ?_; rintro e w1 ⟨rfl, rfl⟩)
    go_ret
    exact ⟨none, 0, 0, rfl, RowAt.nil, Below.refl _ _⟩
  · rw [if_neg h0]
    obtain ⟨q, hq⟩ : ∃ q, macN fs = q + 1 := ⟨macN fs - 1, by omega⟩
    rw [hq] at HT hle ⊢
    rw [show ((q + 1 : Nat) : Int) - 1 = (q : Int) by omega] at HT
    rw [Nat.add_sub_cancel]
    obtain ⟨zs, g, cap, z, A, c, hR, rfl, hz, hfz, hz2, hss, hcap, hfr⟩ := h.mac hle
    rw [hfr]
    rw [List.length_map] at hle hlen
    have hb1 := (Below.refl w.heap.size w).alloc (Nat.le_refl _) (.cells #[] 9)
    have hR1 := hR.below hb1
    have c1 := hR.c1
    have c1' := hR1.c1
    have d3 := (hR.cells hz).2.2.2.1
    have d3' := (hR1.cells hz).2.2.2.1
    rw [hz2] at d3 d3'
    obtain ⟨A3, c3, w3, qrun, hss3, hb3, -⟩ := runSs w 36 A z.1.args.length c z.1.args hss (hR.okAt hz).args
    have HS := Lib.hid hss3
    clear h hR hR1 hss hss3 hz hfz hfr
    go_enter Tryz.func35, Tryz.ntmps35
    go_wp2_with (first
      | (go_at_call 64; refine HT.out.mono ?_; rintro e w1 ⟨rfl, rfl⟩)
      | (at_builtin; refine wpList_append_run _ rfl (.tmp 8) (.tmp 16) _ rfl _ _ rfl rfl _ _ qrun ?_; clear qrun))
    go_ret
    exact ⟨A3, _, c3, rfl, HS.out, hb3⟩
/-- The topmost macro's arguments are exchanged. -/
theorem RK.shift {zs : List Fv} {g cap q n : Nat} {z : Fv} {v' : Value} {w1 w3 : World} (h : RK U K w x zs (.slice (some ⟨g, 0, none⟩) zs.length cap)) (hz : zs[q]? = some z) (hb1 : Below w.heap.size w w1) (hb3 : Below w1.heap.size w1 w3) (hv : SsAt (fun k => w1.heap.size ≤ k ∧ k < w3.heap.size) w3 v' (z.1.args.drop n)) :
    KTo U K w (w3.setCell ⟨g, q * 5 + 3, none⟩ v') x ((zs.map (fun z : Fv => z.1)).modify q (Fr.drop n)) ∧ w3.frozen? ⟨g, q * 5 + 3, none⟩ = false ∧ w3.cell? ⟨g, q * 5 + 3, none⟩ = some z.2.2 := by
  have hb := ntrans hb1 hb3
  have hs1 := hb1.size
  have hsin := RKt.since ⟨zs, _, h, rfl⟩ hb
  have hh := h.below hb
  have hK2 : RK U (fun i => K i ∨ w.heap.size ≤ i ∧ i < w3.heap.size) w3 x zs (.slice (some ⟨g, 0, none⟩) zs.length cap) :=
    ⟨hh.blk, hh.own, fun z hz => (hh.hold z hz).stay (fun _ _ _ => rfl) (fun i hi => .inl hi), hh.ok, hh.ux, hh.uv, hsin.sets.1, hh.ul, hsin.sets.2.2.1⟩
  have hql : q < zs.length := (List.getElem?_eq_some_iff.1 hz).1
  refine ⟨KTo.since hb ?_, hh.own.frozenAt _, (hh.cells hz).2.2.2.1⟩
  have := hK2.put (zs' := zs.modify q (fun z => (z.1.drop n, z.2.1, v'))) (k := q) (j := 3) (u := v') (by rw [List.length_modify]) (rkCs_args hql v' n) (fun y hy => ?_) ?_
  · rw [map_modify_fst (t := Fr.drop n) (fun _ => rfl)] at this
    exact this
  · obtain ⟨k, hk⟩ := List.getElem?_of_mem hy
    rw [List.getElem?_modify] at hk
    cases hzk : zs[k]? with
    | none => rw [hzk] at hk; cases hk
    | some y0 =>
      rw [hzk] at hk
      have hho := hK2.hold y0 (List.mem_of_getElem? hzk)
      by_cases e : q = k
      · subst e
        rw [hz] at hzk
        injection hzk with hzk
        simp at hk
        rw [← hk, ← hzk]
        rw [← hzk] at hho
        exact ⟨hho.1, hv.stay (fun _ _ _ => rfl) (fun i hi => .inr ⟨Nat.le_trans hs1 hi.1, hi.2⟩)⟩
      · simp [e] at hk
        rw [← hk]; exact hho
  · rw [map_modify_fst (t := Fr.drop n) (fun _ => rfl)]
    refine ⟨by rw [List.length_modify]; exact hh.ok.1, fun f hf => ?_⟩
    rcases mem_modify hf with hf | ⟨f0, h1, rfl⟩
    · exact hh.ok.2 f hf
    · have hok := hh.ok.2 f0 (List.mem_of_getElem? h1)
      refine ⟨hok.kind, hok.name, hok.lines, ?_, hok.pos⟩
      have := hok.args
      show (f0.args.drop n).length * 16 ≤ _
      rw [List.length_drop]
      omega
set_option maxRecDepth 100000 in
set_option maxHeartbeats 1000000 in
/-- Shift, where the number is refused, or there is no macro. -/
theorem nShiftNo (n : Int) (hn : (n < 0 ∨ 100 < n) ∨ macN fs = 0) (h : RKt U K w x fs) :
    Calls Tryz.prog 31 #[.pointer (some ⟨x, 0, none⟩), .int .i64 n] w fun e w' => e = .returned (.int .i64 (shE fs n)) ∧ KTo U K w w' x (shF fs n) := by
  have HN := Lib.hid (nNo h)
  have HT : Hid (Calls Tryz.prog 64 #[.pointer (some ⟨x, 0, none⟩), .int .i64 2] w fun e w' => e = .returned (.int .i64 ((macN fs : Nat) - 1 : Int)) ∧ w = w') := Lib.hid (nTop 2 h)
  have HS := Lib.hid (KTo.same h (Below.refl _ _))
  clear h
  unfold shE shF
  by_cases h1 : n < 0
  · rw [if_pos (.inl h1), if_pos (.inl h1)]
    clear hn
    go_enter Tryz.func31, Tryz.ntmps31
    go_wp2_with (go_at_call 43; refine HN.out.mono ?_; rintro e w1 ⟨rfl, rfl⟩)
    go_ret
    exact ⟨rfl, HS.out⟩
  · by_cases h2 : 100 < n
    · rw [if_pos (.inr h2), if_pos (.inr h2)]
      clear hn
      go_enter Tryz.func31, Tryz.ntmps31
      go_wp2_with (go_at_call 43; refine HN.out.mono ?_; rintro e w1 ⟨rfl, rfl⟩)
      go_ret
      exact ⟨rfl, HS.out⟩
    · have h3 : ¬ (n < 0 ∨ 100 < n) := by omega
      have h0 : macN fs = 0 := hn.resolve_left h3
      rw [if_neg h3, if_neg h3, if_pos h0, if_pos h0]
      rw [h0] at HT
      clear hn h3
      go_enter Tryz.func31, Tryz.ntmps31
      go_wp2_with (first
        | (go_at_call 43; refine HN.out.mono ?_; rintro e w1 ⟨rfl, rfl⟩)
        | (go_at_call 64; refine HT.out.mono ?_; rintro e w1 ⟨rfl, rfl⟩))
      go_ret
      exact ⟨rfl, HS.out⟩
end
end Go.Proofs.YtpgkhhchpojlaaaGreatDoor
