/- Walks of the code's stack: Name, Line, Depth, Args, Peek, Copy. -/
import Derived.Test.YtpgkhhchpojlaaaGreatDoorCl
namespace Go.Proofs.YtpgkhhchpojlaaaGreatDoor
open Go.RowKit Go.Maps Go.WideMaps

theorem eFile : ∀ args w, (callFunc 57 args).run Tryz.prog w = .ok (.enter 57 args) w := enters_of Tryz.func57 (by kernel_rfl) rfl
theorem eMacro : ∀ args w, (callFunc 55 args).run Tryz.prog w = .ok (.enter 55 args) w := enters_of Tryz.func55 (by kernel_rfl) rfl
theorem eNamed : ∀ args w, (callFunc 66 args).run Tryz.prog w = .ok (.enter 66 args) w := enters_of Tryz.func66 (by kernel_rfl) rfl
theorem eUnread : ∀ args w, (callFunc 50 args).run Tryz.prog w = .ok (.enter 50 args) w := enters_of Tryz.func50 (by kernel_rfl) rfl
section
variable {U K : Nat → Prop} {w w' : World} {x r cap : Nat} {zs : List Fv} {fs : List Fr}
theorem cTop0 (h : CK U K w x zs r cap) {k : Nat} {p : Fr → Bool} (ek : ∀ args w, (callFunc k args).run Tryz.prog w = .ok (.enter k args) w) (hp : Asks k p) (h0 : topN p (zs.map (·.1)) = 0) :
    Calls Tryz.prog 49 #[.pointer (some ⟨x, 0, none⟩), .func (.func k) #[] #[]] w fun e w' => e = .returned (.int .i64 (-1)) ∧ Below w.heap.size w w' := by
  have := cTopmost h k p ek hp
  rw [h0] at this
  exact this
theorem cTopS (h : CK U K w x zs r cap) {k q : Nat} {p : Fr → Bool} (ek : ∀ args w, (callFunc k args).run Tryz.prog w = .ok (.enter k args) w) (hp : Asks k p) (h0 : topN p (zs.map (·.1)) = q + 1) :
    Calls Tryz.prog 49 #[.pointer (some ⟨x, 0, none⟩), .func (.func k) #[] #[]] w fun e w' => e = .returned (.int .i64 ((q : Nat) : Int)) ∧ Below w.heap.size w w' := by
  have := cTopmost h k p ek hp
  rw [h0, show (((q + 1 : Nat) : Int) - 1) = ((q : Nat) : Int) by omega] at this
  exact this
theorem top_z {p : Fr → Bool} {q : Nat} (h0 : topN p (zs.map (·.1)) = q + 1) : ∃ z, zs[q]? = some z ∧ q < zs.length ∧ p z.1 = true ∧ frI (zs.map (·.1)) q = z.1 := by
  obtain ⟨f, h1, h2⟩ := topN_at (p := p) (fs := zs.map (·.1)) (by omega)
  rw [h0, Nat.add_sub_cancel] at h1
  obtain ⟨z, hz, rfl⟩ := fr_get h1
  exact ⟨z, hz, (List.getElem?_eq_some_iff.1 hz).1, h2, frI_at h1⟩
theorem named_top (h : AllOk fs) : topN (fun f => !f.is 3) fs = nmN fs := by
  unfold nmN macN filN
  rw [← topN_or]
  refine topN_congr (fun f hf => ?_)
  rcases (h.2 f hf).kind with e | e | e <;> (unfold Fr.is; rw [e]; decide)
theorem below_frc {z : Fv} {q : Nat} (h : CK U K w x zs r cap) (hz : zs[q]? = some z) (hb : Below w.heap.size w w') : w'.cell? ⟨x, 0, none⟩ = some (.slice (some ⟨r, 0, none⟩) zs.length cap) ∧ w'.cell? ⟨r, q * 5, none⟩ = some (.int .i64 z.1.kind) ∧ w'.cell? ⟨r, q * 5 + 1, none⟩ = some (.string z.1.name) ∧ w'.cell? ⟨r, q * 5 + 2, none⟩ = some z.2.1 ∧ w'.cell? ⟨r, q * 5 + 3, none⟩ = some (.int .i64 (z.1.pos : Nat)) ∧ w'.cell? ⟨r, q * 5 + 4, none⟩ = some z.2.2 :=
  ⟨(h.below hb).c0, (h.below hb).cells hz⟩
set_option maxRecDepth 100000 in
/-- Name. -/
theorem cName (h : CKt U K w x fs) : Calls Tryz.prog 36 #[.pointer (some ⟨x, 0, none⟩)] w fun e w' => e = .returned (.string (nmS fs)) ∧ Below w.heap.size w w' := by
  obtain ⟨zs, r, cap, h, rfl⟩ := h
  have hnm := named_top h.ok
  unfold nmS
  rw [← hnm]
  cases hq : topN (fun f : Fr => !f.is 3) (zs.map (·.1)) with
  | zero =>
    have HT := Lib.hid (cTop0 h eNamed aNamed hq)
    rw [if_pos rfl]
    clear h hnm hq
    go_enter Tryz.func36, Tryz.ntmps36
    go_wp2_with (go_at_call 49; refine HT.out.mono ?_; rintro e w1 ⟨rfl, hb1⟩)
    go_ret
    exact ⟨rfl, hb1⟩
  | succ q =>
    have HT := Lib.hid (cTopS h eNamed aNamed hq)
    obtain ⟨z, hz, hlt, _, hf⟩ := top_z hq
    rw [if_neg (by omega), Nat.add_sub_cancel, hf]
    have HF := Lib.hid (fun w' hb => below_frc (w' := w') h hz hb)
    have hlti : ((q : Nat) : Int) < ((zs.length : Nat) : Int) := by omega
    clear h hnm hq hf hz
    go_enter Tryz.func36, Tryz.ntmps36
    go_wp2_with (go_at_call 49; refine HT.out.mono ?_; rintro e w1 ⟨rfl, hb1⟩; obtain ⟨c0, _, c2, _, _, _⟩ := HF.out _ hb1)
    go_ret
    exact ⟨rfl, hb1⟩
set_option maxRecDepth 100000 in
/-- Line. -/
theorem cLine (h : CKt U K w x fs) : Calls Tryz.prog 38 #[.pointer (some ⟨x, 0, none⟩)] w fun e w' => e = .returned (.int .i64 (lnI fs : Nat)) ∧ Below w.heap.size w w' := by
  obtain ⟨zs, r, cap, h, rfl⟩ := h
  unfold lnI filN
  cases hq : topN (Fr.is 1) (zs.map (·.1)) with
  | zero =>
    have HT := Lib.hid (cTop0 h eFile aFile hq)
    rw [if_pos rfl]
    clear h hq
    go_enter Tryz.func38, Tryz.ntmps38
    go_wp2_with (go_at_call 49; refine HT.out.mono ?_; rintro e w1 ⟨rfl, hb1⟩)
    go_ret
    exact ⟨rfl, hb1⟩
  | succ q =>
    have HT := Lib.hid (cTopS h eFile aFile hq)
    obtain ⟨z, hz, hlt, _, hf⟩ := top_z hq
    rw [if_neg (by omega), Nat.add_sub_cancel, hf]
    have HF := Lib.hid (fun w' hb => below_frc (w' := w') h hz hb)
    have hlti : ((q : Nat) : Int) < ((zs.length : Nat) : Int) := by omega
    clear h hq hf hz
    go_enter Tryz.func38, Tryz.ntmps38
    go_wp2_with (go_at_call 49; refine HT.out.mono ?_; rintro e w1 ⟨rfl, hb1⟩; obtain ⟨c0, _, _, _, c4, _⟩ := HF.out _ hb1)
    go_ret
    exact ⟨rfl, hb1⟩
/-- Depth. -/
theorem cDepthS (h : CKt U K w x fs) : Calls Tryz.prog 13 #[.pointer (some ⟨x, 0, none⟩)] w fun e w' => e = .returned (.int .i64 (fs.length : Nat)) ∧ Below w.heap.size w w' := by
  obtain ⟨zs, r, cap, h, rfl⟩ := h
  rw [List.length_map]
  exact (cDepth _ _ _ h.c0).mono fun e w' ⟨h1, h2⟩ => ⟨h1, by rw [h2]; exact Below.refl _ _⟩
set_option maxRecDepth 100000 in
/-- append, of texts onto none. -/
theorem runArgs (K : Nat → Prop) (A : Option Addr) (n c : Nat) (l : List ByteArray) (w : World) (h : SsAt K w (.slice A n c) l) (hz : l.length * 16 ≤ 140737488355328) :
    ∃ A' c' w3, (Builtin.append_ #[36, 36] 36 #[.slice none 0 0, .slice A n c]).run Tryz.prog w = .ok (.slice A' l.length c') w3 ∧ SsAt (fun k => w.heap.size ≤ k ∧ k < w3.heap.size) w3 (.slice A' l.length c') l ∧ Below w.heap.size w w3 := by
  obtain ⟨j0, hj0, hy0, hy1, hy2⟩ := info_parts string_info
  obtain ⟨A0, c0, e, h1, h2, h3⟩ := h
  injection e with e1 e2 e3
  subst e1 e2 e3
  by_cases h0 : l.length = 0
  · have hx : l = [] := List.eq_nil_of_length_eq_zero h0
    subst hx
    exact ⟨_, _, _, run_append_zero (P := Tryz.prog) w 36 36 _ j0 Tryz.underlying36 hj0 none 0 0 (Nat.le_refl _) A c, RowAt.nil, Below.refl _ _⟩
  · obtain ⟨g, off, rfl, hk, hr⟩ := h3 (by omega)
    have hss : ∀ x ∈ l, x.size ≤ 140737488351232 := fun x hx => by
      obtain ⟨j, hj, rfl⟩ := List.getElem_of_mem hx
      exact (hr j _ (List.getElem?_eq_getElem hj)).2
    obtain ⟨v', w3, q1, q2, q3, q4, q5⟩ := run_append_own_at (P := Tryz.prog) w w.heap.size 36 36 9 j0 _ 1 16 Tryz.underlying36 hj0 hy0 hy1 hy2 rfl (by omega) (.slice none 0 0) 0 [] (World.ownsRow_nil _ _ _ _) ⟨g, off, none⟩ l.length c (l.map Value.string) (by simp)
      (fun j u hu => by
        rw [off_add]
        rw [List.getElem?_map] at hu
        cases hx : l[j]? with
        | none => rw [hx] at hu; cases hu
        | some x =>
          rw [hx] at hu
          injection hu with hu
          subst hu
          have := (hr j x hx).1
          rwa [Nat.mul_one] at this) (by intro u hu; obtain ⟨x, _, rfl⟩ := List.mem_map.1 hu; rfl) (by unfold maxLen; omega) (by rw [Nat.zero_add]; exact hz) (Nat.le_refl _)
    rw [Nat.zero_add, List.nil_append] at q2
    have hb3 : Below w.heap.size w w3 := (Below.refl _ _).grown q3 (Nat.le_refl _) (fun k hk => by cases hk)
    obtain ⟨g', cap', rfl, _⟩ := own_pos q2 (by omega)
    exact ⟨_, _, w3, q1, own_strs q2 hss, hb3⟩
set_option maxRecDepth 100000 in
/-- Args. -/
theorem cArgs (h : CKt U K w x fs) : Calls Tryz.prog 34 #[.pointer (some ⟨x, 0, none⟩)] w fun e w' => ∃ A n c, e = .returned (.slice A n c) ∧ SsAt (fun k => w.heap.size ≤ k ∧ k < w'.heap.size) w' (.slice A n c) (agL fs) ∧ Below w.heap.size w w' := by
  obtain ⟨zs, r, cap, h, rfl⟩ := h
  unfold agL macN
  cases hq : topN (Fr.is 2) (zs.map (·.1)) with
  | zero =>
    have HT := Lib.hid (cTop0 h eMacro aMacro hq)
    rw [if_pos rfl]
    clear h hq
    go_enter Tryz.func34, Tryz.ntmps34
    go_wp2_with (go_at_call 49; refine HT.out.mono ?_; rintro e w1 ⟨rfl, hb1⟩)
    go_ret
    exact ⟨_, _, _, rfl, RowAt.nil, hb1⟩
  | succ q =>
    have HT := Lib.hid (cTopS h eMacro aMacro hq)
    obtain ⟨z, hz, hlt, _, hf⟩ := top_z hq
    rw [if_neg (by omega), Nat.add_sub_cancel, hf]
    have HF := Lib.hid (fun w' hb => below_frc (w' := w') h hz hb)
    have hlti : ((q : Nat) : Int) < ((zs.length : Nat) : Int) := by omega
    have h2 := (h.hold z (List.mem_of_getElem? hz)).2
    have hal := (h.okAt hz).args
    obtain ⟨A, c, e2, _⟩ := id h2
    rw [e2] at h2 HF
    have HR := Lib.hid (fun (w1 : World) (hb : Below w.heap.size w w1) => runArgs K A _ c z.1.args w1 (h2.stay (Kept.of_all hb) (fun _ h => h)) hal)
    clear h hq hf hz h2 e2 hal
    go_enter Tryz.func34, Tryz.ntmps34
    go_wp2_with (first
      | (go_at_call 49; refine HT.out.mono ?_; rintro e w1 ⟨rfl, hb1⟩; obtain ⟨c0, _, _, _, _, c5⟩ := HF.out _ hb1; obtain ⟨A', c', w3, qrun, hs, hb3⟩ := HR.out _ hb1; have HS := Lib.hid hs; clear hs)
      | (at_builtin
         refine wpList_append_run _ rfl (.const (.slice none 0 0)) (.tmp 15) _ rfl _ _ rfl rfl _ _ qrun ?_
         clear qrun))
    go_ret
    exact ⟨_, _, _, rfl, HS.out.stay (fun _ _ _ => rfl) (fun i hi => ⟨Nat.le_trans hb1.size hi.1, hi.2⟩), hb1.trans (hb3.mono hb1.size)⟩
end
end Go.Proofs.YtpgkhhchpojlaaaGreatDoor
