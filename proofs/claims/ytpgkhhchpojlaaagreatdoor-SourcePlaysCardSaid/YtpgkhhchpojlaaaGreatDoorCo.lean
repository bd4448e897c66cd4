/- Walks of the code's stack: Shift, Copy. -/
import Derived.Test.YtpgkhhchpojlaaaGreatDoorCn
namespace Go.Proofs.YtpgkhhchpojlaaaGreatDoor
open Go.RowKit Go.Maps Go.WideMaps

section
variable {U K : Nat → Prop} {w w' : World} {x r cap : Nat} {zs : List Fv} {fs : List Fr}
theorem CK.shift {q n : Nat} {z : Fv} {v' : Value} (h : CK U K w x zs r cap) (hz : zs[q]? = some z) (hv : SsAt K w v' (z.1.args.drop n)) :
    ZTo U K w (w.setCell ⟨r, q * 5 + 4, none⟩ v') x ((zs.map (fun z : Fv => z.1)).modify q (Fr.drop n)) := by
  have hql : q < zs.length := (List.getElem?_eq_some_iff.1 hz).1
  have := h.put (zs' := zs.modify q (fun z => (z.1.drop n, z.2.1, v'))) (k := q) (j := 4) (u := v') (by rw [List.length_modify]) (ckCs_args hql v' n) (fun y hy => ?_) ?_ ?_
  · rw [map_modify_fst (t := Fr.drop n) (fun _ => rfl)] at this
    exact this
  · obtain ⟨k, hk⟩ := List.getElem?_of_mem hy
    rw [List.getElem?_modify] at hk
    cases hzk : zs[k]? with
    | none => rw [hzk] at hk; cases hk
    | some y0 =>
      rw [hzk] at hk
      have hho := h.hold y0 (List.mem_of_getElem? hzk)
      by_cases e : q = k
      · subst e
        rw [hz] at hzk
        injection hzk with hzk
        simp at hk
        rw [← hk, ← hzk]
        rw [← hzk] at hho
        exact ⟨hho.1, hv⟩
      · simp [e] at hk
        rw [← hk]; exact hho
  · rw [map_modify_fst (t := Fr.drop n) (fun _ => rfl)]
    refine ⟨by rw [List.length_modify]; exact h.ok.1, fun f hf => ?_⟩
    rcases mem_modify hf with hf | ⟨f0, h1, rfl⟩
    · exact h.ok.2 f hf
    · have hok := h.ok.2 f0 (List.mem_of_getElem? h1)
      refine ⟨hok.kind, hok.name, hok.lines, ?_, hok.pos⟩
      have := hok.args
      show (f0.args.drop n).length * 16 ≤ _
      rw [List.length_drop]
      omega
  · rw [map_modify_fst (t := Fr.drop n) (fun _ => rfl)]
    exact h.inv.mod (fun f _ => rfl)
theorem CK.next {q : Nat} {z : Fv} (h : CK U K w x zs r cap) (hz : zs[q]? = some z) (hl : z.1.pos < z.1.lines.length) (ht : q + 1 = zs.length) :
    ZTo U K w (w.setCell ⟨r, q * 5 + 3, none⟩ (.int .i64 ((z.1.pos + 1 : Nat) : Int))) x ((zs.map (fun z : Fv => z.1)).modify q Fr.next) := by
  have hql : q < zs.length := (List.getElem?_eq_some_iff.1 hz).1
  have hzok := h.okAt hz
  have := h.put (zs' := zs.modify q (fun z => (z.1.next, z.2))) (k := q) (j := 3) (u := .int .i64 ((z.1.pos + 1 : Nat) : Int)) (by rw [List.length_modify]) (ckCs_next hql hz rfl) (fun y hy => ?_) ?_ ?_
  · rw [map_modify_fst (t := Fr.next) (fun _ => rfl)] at this
    exact this
  · obtain ⟨k, hk⟩ := List.getElem?_of_mem hy
    rw [List.getElem?_modify] at hk
    cases hzk : zs[k]? with
    | none => rw [hzk] at hk; cases hk
    | some y0 =>
      rw [hzk] at hk
      have hh := h.hold y0 (List.mem_of_getElem? hzk)
      by_cases e : q = k
      · simp [e] at hk
        rw [← hk]; exact hh
      · simp [e] at hk
        rw [← hk]; exact hh
  · rw [map_modify_fst (t := Fr.next) (fun _ => rfl)]
    refine ⟨by rw [List.length_modify]; exact h.ok.1, fun f hf => ?_⟩
    rcases mem_modify hf with hf | ⟨f0, h1, rfl⟩
    · exact h.ok.2 f hf
    · have h8 := get_fr hz
      rw [h8] at h1
      injection h1 with h1
      rw [← h1]
      exact ⟨hzok.kind, hzok.name, hzok.lines, hzok.args, by show z.1.pos + 1 ≤ z.1.lines.length; omega⟩
  · rw [map_modify_fst (t := Fr.next) (fun _ => rfl)]
    exact h.inv.mod (fun f hk => by rw [List.length_map] at hk; omega)
set_option maxRecDepth 100000 in
set_option maxHeartbeats 1600000 in
/-- Shift. -/
theorem cShift (n : Int) (_hn : -9223372036854775808 ≤ n ∧ n ≤ 9223372036854775807) (h : CKt U K w x fs) : Calls Tryz.prog 23 #[.pointer (some ⟨x, 0, none⟩), .int .i64 n] w fun e w' => e = .returned (.int .i64 (shE fs n)) ∧ ZTo U K w w' x (shF fs n) := by
  have HZ := Lib.hid (h.unmade (Below.refl _ _))
  have HS := Lib.hid (fun w' (hb : Below w.heap.size w w') => ZTo.same h hb)
  unfold shE shF macN
  by_cases h1 : n < 0
  · rw [if_pos (.inl h1), if_pos (.inl h1)]
    clear h
    go_enter Tryz.func23, Tryz.ntmps23
    go_wp2_with (go_at_call 41; refine HZ.out.mono ?_; rintro e w1 ⟨rfl, hw⟩; rw [hw]; clear hw)
    go_ret
    exact ⟨rfl, HS.out _ (Below.refl _ _)⟩
  · by_cases h2 : 100 < n
    · rw [if_pos (.inr h2), if_pos (.inr h2)]
      clear h
      go_enter Tryz.func23, Tryz.ntmps23
      go_wp2_with (go_at_call 41; refine HZ.out.mono ?_; rintro e w1 ⟨rfl, hw⟩; rw [hw]; clear hw)
      go_ret
      exact ⟨rfl, HS.out _ (Below.refl _ _)⟩
    · have h3 : ¬ (n < 0 ∨ 100 < n) := by omega
      simp only [h3, if_false]
      obtain ⟨m, rfl⟩ : ∃ m : Nat, n = m := ⟨n.toNat, by omega⟩
      rw [show ((m : Nat) : Int).toNat = m from rfl]
      obtain ⟨zs, r, cap, h, rfl⟩ := h
      cases hq : topN (Fr.is 2) (zs.map (·.1)) with
      | zero =>
        have HT := Lib.hid (cTop0 h eMacro aMacro hq)
        simp only [if_true]
        clear h hq
        go_enter Tryz.func23, Tryz.ntmps23
        go_wp2_with (first
          | (go_at_call 41; refine HZ.out.mono ?_; rintro e w1 ⟨rfl, hw⟩; rw [hw]; clear hw)
          | (go_at_call 49; refine HT.out.mono ?_; rintro e w1 ⟨rfl, hb1⟩))
        go_ret
        exact ⟨rfl, HS.out _ hb1⟩
      | succ q =>
        have HT := Lib.hid (cTopS h eMacro aMacro hq)
        obtain ⟨z, hz, hlt, _, hf⟩ := top_z hq
        have hne : ¬ (q + 1 = 0) := by omega
        simp only [hne, if_false, Nat.add_sub_cancel]
        have hlti : ((q : Nat) : Int) < ((zs.length : Nat) : Int) := by omega
        have hss := (h.hold z (List.mem_of_getElem? hz)).2
        obtain ⟨A, c, e2, hlc, hcm, hA⟩ := id hss
        have HF := Lib.hid (fun w' hb => below_frc (w' := w') h hz hb)
        rw [e2] at hss HF
        have HSh : Hid (∀ (w1 : World) (v' : Value), Below w.heap.size w w1 → (∀ w2, Below w.heap.size w w2 → SsAt K w2 v' (z.1.args.drop m)) → ZTo U K w (w1.drew.setCell ⟨r, q * 5 + 4, none⟩ v') x ((zs.map (fun z : Fv => z.1)).modify q (Fr.drop m))) := Lib.hid (fun w1 v' hb hv => by
          have hbd : Below w.heap.size w w1.drew := hb.trans (((Below.refl _ w1).drew).mono hb.size)
          exact ZTo.from_ hbd ((h.below hbd).shift hz (hv _ hbd)))
        have HFz : Hid (∀ w1, Below w.heap.size w w1 → w1.frozen? ⟨r, q * 5 + 4, none⟩ = false) := Lib.hid (fun w1 hb => (h.below hb).own.frozenAt _)
        have HK := Lib.hid (fun w2 (hb : Below w.heap.size w w2) => hss.stay (K' := K) (Kept.of_all hb) (fun _ h => h))
        clear h hq hf hz hne hss e2
        obtain ⟨k, hk0⟩ : ∃ k, k = min m z.1.args.length := ⟨_, rfl⟩
        have hk : min ((m : Nat) : Int) ((z.1.args.length : Nat) : Int) = ((k : Nat) : Int) := by omega
        have hkl : k ≤ z.1.args.length := by omega
        have hdr : z.1.args.drop m = z.1.args.drop k := by
          rcases Nat.le_total m z.1.args.length with h | h
          · rw [show k = m by omega]
          · rw [List.drop_of_length_le h, List.drop_of_length_le (by omega)]
        rw [hdr] at HSh
        clear hk0 hdr
        rcases Nat.eq_zero_or_pos z.1.args.length with hl0 | hl0
        · obtain rfl : k = 0 := by omega
          have hnil : z.1.args = [] := List.eq_nil_of_length_eq_zero hl0
          have HNil := Lib.hid (fun (X : Option Addr) (cc : Nat) (hcc : cc ≤ maxLen) (w2 : World) => show SsAt K w2 (.slice X 0 cc) (z.1.args.drop 0) by
            rw [List.drop_zero, hnil]
            exact ⟨X, cc, rfl, Nat.zero_le _, hcc, fun h => absurd h (Nat.lt_irrefl 0)⟩)
          rw [hl0] at hk HF
          clear hA hnil hkl hlc HK
          by_cases hc0 : c = 0
          · subst hc0
            cases A with
            | none =>
              go_enter Tryz.func23, Tryz.ntmps23
              go_wp2_with (first
                | (go_at_call 41; refine HZ.out.mono ?_; rintro e w1 ⟨rfl, hw⟩; rw [hw]; clear hw)
                | (go_at_call 49; refine HT.out.mono ?_; rintro e w1 ⟨rfl, hb1⟩; obtain ⟨c0, _, _, _, _, c5⟩ := HF.out _ hb1; have fz := HFz.out _ hb1))
              go_region
              all_goals
                go_wp2_with fail
                go_ret
                exact ⟨rfl, HSh.out _ _ hb1 (fun w2 _ => HNil.out _ _ (by unfold maxLen; omega) w2)⟩
            | some a =>
              go_enter Tryz.func23, Tryz.ntmps23
              go_wp2_with (first
                | (go_at_call 41; refine HZ.out.mono ?_; rintro e w1 ⟨rfl, hw⟩; rw [hw]; clear hw)
                | (go_at_call 49; refine HT.out.mono ?_; rintro e w1 ⟨rfl, hb1⟩; obtain ⟨c0, _, _, _, _, c5⟩ := HF.out _ hb1; have fz := HFz.out _ hb1))
              go_region
              all_goals
                go_wp2_with fail
                go_ret
                exact ⟨rfl, HSh.out _ _ hb1 (fun w2 _ => HNil.out _ _ (by unfold maxLen; omega) w2)⟩
          · cases A with
            | none =>
              go_enter Tryz.func23, Tryz.ntmps23
              go_wp2_with (first
                | (go_at_call 41; refine HZ.out.mono ?_; rintro e w1 ⟨rfl, hw⟩; rw [hw]; clear hw)
                | (go_at_call 49; refine HT.out.mono ?_; rintro e w1 ⟨rfl, hb1⟩; obtain ⟨c0, _, _, _, _, c5⟩ := HF.out _ hb1; have fz := HFz.out _ hb1))
              go_region
              all_goals
                go_wp2_with fail
                go_ret
                exact ⟨rfl, HSh.out _ _ hb1 (fun w2 _ => HNil.out _ _ (by omega) w2)⟩
            | some a =>
              go_enter Tryz.func23, Tryz.ntmps23
              go_wp2_with (first
                | (go_at_call 41; refine HZ.out.mono ?_; rintro e w1 ⟨rfl, hw⟩; rw [hw]; clear hw)
                | (go_at_call 49; refine HT.out.mono ?_; rintro e w1 ⟨rfl, hb1⟩; obtain ⟨c0, _, _, _, _, c5⟩ := HF.out _ hb1; have fz := HFz.out _ hb1))
              go_region
              all_goals
                go_wp2_with fail
                go_ret
                exact ⟨rfl, HSh.out _ _ hb1 (fun w2 _ => HNil.out _ _ (by omega) w2)⟩
        · obtain ⟨g, off, rfl, _, _⟩ := hA hl0
          have HD := Lib.hid (fun w2 (hb : Below w.heap.size w w2) => SsAt.drop (k := k) rfl (HK.out w2 hb) hkl)
          clear hA HK
          by_cases hck : c = k
          · rw [if_pos hck, show c - k = 0 by omega] at HD
            go_enter Tryz.func23, Tryz.ntmps23
            go_wp2_with (first
              | (go_at_call 41; refine HZ.out.mono ?_; rintro e w1 ⟨rfl, hw⟩; rw [hw]; clear hw)
              | (go_at_call 49; refine HT.out.mono ?_; rintro e w1 ⟨rfl, hb1⟩; obtain ⟨c0, _, _, _, _, c5⟩ := HF.out _ hb1; have fz := HFz.out _ hb1))
            go_region
            all_goals
              go_wp2_with fail
              go_ret
              exact ⟨rfl, HSh.out _ _ hb1 (fun w2 hb2 => HD.out w2 hb2)⟩
          · rw [if_neg hck] at HD
            go_enter Tryz.func23, Tryz.ntmps23
            go_wp2_with (first
              | (go_at_call 41; refine HZ.out.mono ?_; rintro e w1 ⟨rfl, hw⟩; rw [hw]; clear hw)
              | (go_at_call 49; refine HT.out.mono ?_; rintro e w1 ⟨rfl, hb1⟩; obtain ⟨c0, _, _, _, _, c5⟩ := HF.out _ hb1; have fz := HFz.out _ hb1))
            go_region
            all_goals
              go_wp2_with fail
              go_ret
              exact ⟨rfl, HSh.out _ _ hb1 (fun w2 hb2 => HD.out w2 hb2)⟩
set_option maxRecDepth 100000 in
/-- slices.Clone, of frames. -/
theorem cCloneF (h : CK U K w x zs r cap) : Calls Tryz.prog 42 #[.slice (some ⟨r, 0, none⟩) zs.length cap] w fun e w' => ∃ r' c', e = .returned (.slice (some ⟨r', 0, none⟩) zs.length c') ∧ w.heap.size ≤ r' ∧ w'.ownsRow 0 62 5 (.slice (some ⟨r', 0, none⟩) zs.length c') zs.length (ckCs zs) ∧ Below w.heap.size w w' := by
  have heq : ∀ w, (binOp .eql 47 (.slice (some ⟨r, 0, none⟩) zs.length cap) (.slice none 0 0)).run Tryz.prog w = .ok (.bool false) w := fun w => Lib.run_eql_slice_nil w _ _ (some ⟨r, 0, none⟩) zs.length cap 0 0 Tryz.underlying47
  have hlen := h.len
  have HR : Hid (∃ r' c' w3, (Builtin.append_ #[47, 47] 47 #[.slice (some ⟨w.heap.size, 0, none⟩) 0 0, .slice (some ⟨r, 0, none⟩) zs.length cap]).run Tryz.prog (w.alloc (.cells #[] 62)) = .ok (.slice (some ⟨r', 0, none⟩) zs.length c') w3 ∧ w.heap.size ≤ r' ∧ w3.ownsRow 0 62 5 (.slice (some ⟨r', 0, none⟩) zs.length c') zs.length (ckCs zs) ∧ Below w.heap.size w w3) := Lib.hid (by
    obtain ⟨j0, hj0, hy0, hy1, hy2⟩ := info_parts cframe_info
    have hb1 : Below w.heap.size w (w.alloc (.cells #[] 62)) := (Below.refl _ _).alloc (Nat.le_refl _) _
    by_cases h0 : zs.length = 0
    · have hx : zs = [] := List.eq_nil_of_length_eq_zero h0
      subst hx
      exact ⟨_, _, _, run_append_zero (P := Tryz.prog) _ 47 47 _ j0 Tryz.underlying47 hj0 (some ⟨w.heap.size, 0, none⟩) 0 0 (Nat.le_refl _) _ _, Nat.le_refl _, own_base (World.ownsRow_lit (e := 62) (size := 5) w #[] 0 (Nat.le_refl _) (by unfold maxLen; omega) (by simp)) (Nat.zero_le _), hb1⟩
    · obtain ⟨v', w3, qrun, hown, hb3, _, _, _⟩ := runCopy (t := 47) (bytes := 80) Tryz.underlying47 cframe_info rfl (by omega) w 47 (some ⟨r, 0, none⟩) zs.length cap (ckCs zs) ckCs_len
        (fun _ => ⟨r, 0, rfl, fun j u hu => by rw [Nat.zero_add]; exact own_cellAt h.own hu⟩) (one_allC h.hold) (by omega) (by omega)
      obtain ⟨r', c', rfl, _, _, _⟩ := own_pos hown (by omega)
      exact ⟨r', c', w3, qrun, own_ge hown rfl, own_base hown (Nat.zero_le _), hb3⟩)
  clear h
  obtain ⟨r', c', w3, qrun, h1, h2, h3⟩ := HR.out
  go_enter Tryz.func42, Tryz.ntmps42
  go_wp2_with (at_builtin
               refine wpList_append_run _ rfl (.tmp 5) (.tmp 6) _ rfl _ _ rfl rfl _ _ qrun ?_
               clear qrun)
  go_ret
  exact ⟨_, _, rfl, h1, h2, h3⟩
set_option maxRecDepth 100000 in
/-- Copy. -/
theorem cCopyS (h : CKt U K w x fs) : Calls Tryz.prog 14 #[.pointer (some ⟨x, 0, none⟩)] w fun e w' => ∃ g', e = .returned (.pointer (some ⟨g', 0, none⟩)) ∧ ∃ U' K', CKt U' K' w' g' fs ∧ (∀ i, U' i → w.heap.size ≤ i) ∧ Below w.heap.size w w' := by
  have HZ := Lib.hid (h.unmade (Below.refl _ _))
  obtain ⟨zs, r, cap, h, rfl⟩ := h
  have HC := Lib.hid (cCloneF h)
  have c0 := h.c0
  have HE : Hid (∀ (w1 : World) (r' c' : Nat), w.heap.size ≤ r' → w1.ownsRow 0 62 5 (.slice (some ⟨r', 0, none⟩) zs.length c') zs.length (ckCs zs) → Below w.heap.size w w1 → ∃ U' K', CKt U' K' (w1.alloc (.cells #[.slice (some ⟨r', 0, none⟩) zs.length c'] 49)) w1.heap.size (zs.map (·.1)) ∧ (∀ i, U' i → w.heap.size ≤ i) ∧ Below w.heap.size w (w1.alloc (.cells #[.slice (some ⟨r', 0, none⟩) zs.length c'] 49))) := Lib.hid (fun w1 r' c' hr ho hb => by
    have hba : Below w1.heap.size w1 (w1.alloc (.cells #[.slice (some ⟨r', 0, none⟩) zs.length c'] 49)) := (Below.refl _ _).alloc (Nat.le_refl _) _
    have hlt : r' < w1.heap.size := (ho.lt r' rfl).2
    have hbw := hb.trans (hba.mono hb.size)
    have hs := hb.size
    refine ⟨fun i => i = r' ∨ i = w1.heap.size, K, ⟨zs, r', c', ⟨Blk.new _ _ _, ho.alloc _, fun z hz => (h.hold z hz).stay (Kept.of_all hbw) (fun _ h => h), h.ok, h.inv, .inr rfl, .inl rfl, fun i hi hk => ?_, fun i hi => ?_, fun i hi => Nat.lt_of_lt_of_le (h.kl i hi) hbw.size⟩, rfl⟩, fun i hi => ?_, hbw⟩
    · have := h.kl i hk
      rcases hi with rfl | rfl <;> omega
    · simp
      rcases hi with rfl | rfl <;> omega
    · rcases hi with rfl | rfl <;> omega)
  clear h
  go_enter Tryz.func14, Tryz.ntmps14
  go_wp2_with (first
    | (go_at_call 41; refine HZ.out.mono ?_; rintro e w1 ⟨rfl, hw⟩; rw [hw]; clear hw)
    | (go_at_call 42; refine HC.out.mono ?_; rintro e w1 ⟨r', c', rfl, hr, ho, hb⟩; have HQ := Lib.hid (HE.out _ _ _ hr ho hb); clear hr ho hb))
  go_ret
  exact ⟨_, rfl, HQ.out⟩
end
end Go.Proofs.YtpgkhhchpojlaaaGreatDoor
