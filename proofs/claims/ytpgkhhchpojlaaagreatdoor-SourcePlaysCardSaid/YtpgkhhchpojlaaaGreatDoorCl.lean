/- Walks of the code's stack: File, Wait, Macro. -/
import Derived.Test.YtpgkhhchpojlaaaGreatDoorCf
import Derived.Test.YtpgkhhchpojlaaaGreatDoorCg
import Derived.Test.YtpgkhhchpojlaaaGreatDoorCi
import Derived.Test.YtpgkhhchpojlaaaGreatDoorCj
namespace Go.Proofs.YtpgkhhchpojlaaaGreatDoor
open Go.RowKit Go.Maps Go.WideMaps

theorem cutLf_no : ∀ (l : List UInt8), ∀ x ∈ cutLf l, ∀ c ∈ x, c ≠ 10
  | [], x, h, _, _ => by cases h
  | c :: t, x, h, b, hb => by
    have ih := cutLf_no t
    unfold cutLf at h
    split at h
    · rcases List.mem_cons.1 h with rfl | h
      · cases hb
      · exact ih x h b hb
    · rename_i hc
      split at h
      · rw [List.mem_singleton.1 h] at hb
        rw [List.mem_singleton.1 hb]
        exact hc
      · rename_i a r e
        rw [e] at ih
        rcases List.mem_cons.1 h with rfl | h
        · rcases List.mem_cons.1 hb with rfl | hb
          · exact hc
          · exact ih a (List.mem_cons_self ..) b hb
        · exact ih x (List.mem_cons_of_mem _ h) b hb
theorem lnsT_no (s : ByteArray) : ∀ x ∈ lnsT s, noLf x = true := by
  intro x hx
  obtain ⟨l, hl, rfl⟩ := List.mem_map.1 hx
  unfold noLf allB
  rw [List.all_eq_true]
  intro c hc
  have := cutLf_no _ l hl c hc
  rw [decide_eq_true_eq]
  exact fun e => this (UInt8.toNat_inj.1 e)
/-- The lines of a file are right where they are short and few. -/
theorem rd_ok (s : ByteArray) : lsOk (rdL s) = rdB s := by
  have hno := lnsT_no s
  unfold lsOk rdB rdL lnsB
  rw [List.length_map]
  congr 1
  rw [List.all_map]
  generalize lnsT s = L at *
  induction L with
  | nil => rfl
  | cons y L ih =>
    rw [List.all_cons, List.all_cons, ih (fun x hx => hno x (List.mem_cons_of_mem _ hx))]
    congr 1
    show lnF y false 0 0 0 = _
    unfold lnF textB
    rw [hno y (List.mem_cons_self ..)]
    simp
section
variable {U K : Nat → Prop} {w w' : World} {x : Nat} {fs : List Fr}
theorem CKt.unmade (h : CKt U K w x fs) (hb : Below w.heap.size w w') :
    Calls Tryz.prog 41 #[.pointer (some ⟨x, 0, none⟩)] w' fun e w'' => e = .returned (.bool false) ∧ w'' = w' := by
  obtain ⟨zs, r, cap, h1, rfl⟩ := h.below hb
  exact cUnmade _ _ _ h1.c0
set_option maxRecDepth 100000 in
/-- File. -/
theorem cFile (n t : ByteArray) (hs : n.size ≤ maxLen) (ht : t.size ≤ 1000000) (h : CKt U K w x fs) :
    Calls Tryz.prog 16 #[.pointer (some ⟨x, 0, none⟩), .string n, .string t] w fun e w' => e = .returned (.int .i64 (putE (nmdB n && rdB t) fs)) ∧ ZTo U K w w' x (putF (nmdB n && rdB t) fs (filFr n t)) := by
  have HF := Lib.hid (cFileFrame n t ht w)
  have HZ := Lib.hid (fun (w1 : World) (hb : Below w.heap.size w w1) => h.unmade hb)
  have HN := Lib.hid (fun w => cValidName n hs w)
  have HS := Lib.hid (fun w' (hb : Below w.heap.size w w') => ZTo.same h hb)
  have HV := Lib.hid (fun (w1 w2 : World) (A : Option Addr) (k c : Nat) (hl : LnsAt (fun k => w.heap.size ≤ k ∧ k < w1.heap.size) w1 (.slice A k c) (rdL t)) (hb : Below w1.heap.size w1 w2) =>
    cValidLines (fun k => w.heap.size ≤ k ∧ k < w1.heap.size) _ (rdL t) w2 (hl.on hb) (fun k hk => Nat.lt_of_lt_of_le hk.2 hb.size))
  have HP := Lib.hid (fun (w1 w2 : World) (A : Option Addr) (k c : Nat) (hb : Below w.heap.size w w1) (hn : nmdB n = true) (hr : rdB t = true) (hl : LnsAt (fun k => w.heap.size ≤ k ∧ k < w1.heap.size) w1 (.slice A k c) (rdL t)) (hb2 : Below w1.heap.size w1 w2) =>
    cPush (w := w2) (filFr n t) A k c none 0 0 (filFr_ok hn hr) ⟨hl.stay (Kept.of_all hb2) (fun i hi => .inr ⟨hi.1, Nat.lt_of_lt_of_le hi.2 hb2.size⟩), RowAt.nil⟩ (h.since (hb.trans (hb2.mono hb.size))))
  unfold putE putF
  rw [rd_ok] at HV
  clear h
  cases hn : nmdB n
  · rw [hn] at HN
    rw [Bool.false_and]
    simp only [Bool.false_eq_true, if_false]
    go_enter Tryz.func16, Tryz.ntmps16
    go_wp2_with (first
      | (go_at_call 45; refine HF.out.mono ?_; rintro e w1 ⟨A, k, c, rfl, hl, hb1⟩; have HB := Lib.hid (hb1.alloc hb1.size (.cells #[.int .i64 1, .string n, .slice A k c, .int .i64 0, .slice none 0 0] 62)); clear hl hb1)
      | (go_at_call 41; refine (HZ.out _ HB.out).mono ?_; rintro e w2 ⟨rfl, hw⟩; rw [hw]; clear hw)
      | (go_at_call 46; refine (HN.out _).mono ?_; rintro e w2 ⟨rfl, hw⟩; rw [hw]; clear hw))
    go_ret
    exact ⟨rfl, HS.out _ HB.out⟩
  · rw [hn] at HN
    have HP2 := Lib.hid (fun w1 w2 A k c hb hr hl hb2 => HP.out w1 w2 A k c hb hn hr hl hb2)
    clear HP
    rw [Bool.true_and]
    cases hr : rdB t
    · rw [hr] at HV
      simp only [Bool.false_eq_true, if_false]
      go_enter Tryz.func16, Tryz.ntmps16
      go_wp2_with (first
        | (go_at_call 45; refine HF.out.mono ?_; rintro e w1 ⟨A, k, c, rfl, hl, hb1⟩; have HB := Lib.hid (hb1.alloc hb1.size (.cells #[.int .i64 1, .string n, .slice A k c, .int .i64 0, .slice none 0 0] 62)); have HL := Lib.hid hl; have hbf := Blk.new w1 62 #[.int .i64 1, .string n, .slice A k c, .int .i64 0, .slice none 0 0]; have d2 := hbf.cell 2; simp only [List.getElem?_toArray, List.getElem?_cons_zero, List.getElem?_cons_succ] at d2; clear hl hb1 hbf)
        | (go_at_call 41; refine (HZ.out _ HB.out).mono ?_; rintro e w2 ⟨rfl, hw⟩; rw [hw]; clear hw)
        | (go_at_call 46; refine (HN.out _).mono ?_; rintro e w2 ⟨rfl, hw⟩; rw [hw]; clear hw)
        | (go_at_call 47; refine (HV.out _ _ _ _ _ HL.out ((Below.refl _ _).alloc (Nat.le_refl _) _)).mono ?_; rintro e w2 ⟨rfl, hb2⟩))
      go_ret
      exact ⟨rfl, HS.out _ (HB.out.trans (hb2.mono HB.out.size))⟩
    · have HP3 := Lib.hid (fun w1 w2 A k c hb hl hb2 => HP2.out w1 w2 A k c hb hr hl hb2)
      clear HP2
      rw [hr] at HV
      simp only [if_true]
      go_enter Tryz.func16, Tryz.ntmps16
      go_wp2_with (first
        | (go_at_call 45; refine HF.out.mono ?_; rintro e w1 ⟨A, k, c, rfl, hl, hb1⟩; have HB1 := Lib.hid hb1; have HB := Lib.hid (hb1.alloc hb1.size (.cells #[.int .i64 1, .string n, .slice A k c, .int .i64 0, .slice none 0 0] 62)); have HL := Lib.hid hl; have HBa : Hid (Below w1.heap.size w1 (w1.alloc (.cells #[.int .i64 1, .string n, .slice A k c, .int .i64 0, .slice none 0 0] 62))) := Lib.hid ((Below.refl _ _).alloc (Nat.le_refl _) _); have HBf := Lib.hid (Blk.new w1 62 #[.int .i64 1, .string n, .slice A k c, .int .i64 0, .slice none 0 0]); have d2 := HBf.out.cell 2; simp only [List.getElem?_toArray, List.getElem?_cons_zero, List.getElem?_cons_succ] at d2; clear hl hb1)
        | (go_at_call 41; refine (HZ.out _ HB.out).mono ?_; rintro e w2 ⟨rfl, hw⟩; rw [hw]; clear hw)
        | (go_at_call 46; refine (HN.out _).mono ?_; rintro e w2 ⟨rfl, hw⟩; rw [hw]; clear hw)
        | (go_at_call 47; refine (HV.out _ _ _ _ _ HL.out HBa.out).mono ?_; rintro e w2 ⟨rfl, hb2⟩; have hbf2 := HBf.out.below hb2 HBf.out.lt; have z0 := hbf2.cell 0; have z1 := hbf2.cell 1; have z2 := hbf2.cell 2; have z3 := hbf2.cell 3; have z4 := hbf2.cell 4; simp only [List.getElem?_toArray, List.getElem?_cons_zero, List.getElem?_cons_succ] at z0 z1 z2 z3 z4; have HB2 := Lib.hid (HBa.out.trans (hb2.mono HBa.out.size)); clear hbf2 hb2)
        | (go_at_call 48; refine (HP3.out _ _ _ _ _ HB1.out HL.out HB2.out).mono ?_; rintro e w3 ⟨rfl, hq⟩))
      go_ret
      exact ⟨rfl, ZTo.since (HB1.out.trans (HB2.out.mono HB1.out.size)) hq⟩
set_option maxRecDepth 100000 in
/-- Wait. -/
theorem cWait (K0 : Nat → Prop) (v : Value) (ls : List Ln) (hv : LnsAt K0 w v ls) (hK0 : ∀ k, K0 k → k < w.heap.size) (h : CKt U K w x fs) :
    Calls Tryz.prog 19 #[.pointer (some ⟨x, 0, none⟩), v] w fun e w' => e = .returned (.int .i64 (putE (lsOk ls) fs)) ∧ ZTo U K w w' x (putF (lsOk ls) fs (waiFr ls)) := by
  have HZ := Lib.hid (h.unmade (Below.refl _ _))
  have HV := Lib.hid (cValidLines K0 v ls w hv hK0)
  have HS := Lib.hid (fun w' (hb : Below w.heap.size w w') => ZTo.same h hb)
  have HC := Lib.hid (fun (w1 : World) (hb : Below w.heap.size w w1) (h20 : ls.length ≤ 20000) => cCopyLns (K := K0) v ls (hv.stay (Kept.of_below hb hK0) (fun _ h => h)) (fun k hk => Nat.lt_of_lt_of_le (hK0 k hk) hb.size) (by omega))
  obtain ⟨Av, cv, rfl, hn1, _, _⟩ := id hv
  unfold putE putF
  cases hx : lsOk ls
  · rw [hx] at HV
    simp only [Bool.false_eq_true, if_false]
    clear h hv
    go_enter Tryz.func19, Tryz.ntmps19
    go_wp2_with (first
      | (go_at_call 41; refine HZ.out.mono ?_; rintro e w1 ⟨rfl, hw⟩; rw [hw]; clear hw)
      | (go_at_call 47; refine HV.out.mono ?_; rintro e w1 ⟨rfl, hb1⟩))
    go_ret
    exact ⟨rfl, HS.out _ hb1⟩
  · rw [hx] at HV
    simp only [if_true]
    have H20 : Hid (ls.length ≤ 20000) := Lib.hid (by
      unfold lsOk at hx
      rw [Bool.and_eq_true, decide_eq_true_eq] at hx
      exact hx.2)
    have hok : (waiFr ls).Ok := by
      unfold lsOk at hx
      rw [Bool.and_eq_true, decide_eq_true_eq] at hx
      exact ⟨.inr (.inr rfl), by show 0 ≤ _; omega, hx.2, by show 0 * 16 ≤ _; omega, Nat.zero_le _⟩
    have HP := Lib.hid (fun (w2 : World) (A : Option Addr) (k c : Nat) (hb : Below w.heap.size w w2) (hl : LnsAt (fun k => w.heap.size ≤ k ∧ k < w2.heap.size) w2 (.slice A k c) ls) =>
      cPush (w := w2) (waiFr ls) A k c none 0 0 hok ⟨hl.stay (fun _ _ _ => rfl) (fun i hi => .inr hi), RowAt.nil⟩ (h.since hb))
    clear h hv
    go_enter Tryz.func19, Tryz.ntmps19
    go_wp2_with (first
      | (go_at_call 41; refine HZ.out.mono ?_; rintro e w1 ⟨rfl, hw⟩; rw [hw]; clear hw)
      | (go_at_call 47; refine HV.out.mono ?_; rintro e w1 ⟨rfl, hb1⟩; have HB1 := Lib.hid hb1; clear hb1)
      | (go_at_call 53; refine (HC.out _ HB1.out H20.out).mono ?_; rintro e w2 ⟨v2, rfl, hl2, hb2⟩; obtain ⟨A2, n2, c2, rfl⟩ : ∃ A n c, v2 = .slice A n c := (by obtain ⟨A, c, e, _⟩ := hl2; exact ⟨A, _, c, e⟩); have HB2 := Lib.hid (HB1.out.trans (hb2.mono HB1.out.size)); have HL2 := Lib.hid (hl2.stay (K' := fun k => w.heap.size ≤ k ∧ k < w2.heap.size) (fun _ _ _ => rfl) (fun i hi => ⟨Nat.le_trans HB1.out.size hi.1, hi.2⟩)); clear hl2 hb2)
      | (go_at_call 48; refine (HP.out _ _ _ _ HB2.out HL2.out).mono ?_; rintro e w3 ⟨rfl, hq⟩))
    go_ret
    exact ⟨rfl, ZTo.since HB2.out hq⟩
/-- slices.Clone, of texts. -/
theorem cCloneS (K : Nat → Prop) (v : Value) (l : List ByteArray) (w : World) (h : SsAt K w v l) (hz : l.length * 16 ≤ 140737488355328) :
    Calls Tryz.prog 54 #[v] w fun e w' => ∃ A n c, e = .returned (.slice A n c) ∧ SsAt (fun k => w.heap.size ≤ k ∧ k < w'.heap.size) w' (.slice A n c) l ∧ Below w.heap.size w w' := by
  obtain ⟨A, cap, rfl, h1, h2, h3⟩ := h
  cases A with
  | none =>
    have h0 : l = [] := by
      rcases Nat.eq_zero_or_pos l.length with h | h
      · exact List.length_eq_zero_iff.1 h
      · obtain ⟨g, off, e, _⟩ := h3 h
        cases e
    subst h0
    have heq : ∀ w, (binOp .eql 36 (.slice none 0 cap) (.slice none 0 0)).run Tryz.prog w = .ok (.bool true) w := fun w => Lib.run_eql_slice_nil w _ _ none 0 cap 0 0 Tryz.underlying36
    go_enter Tryz.func54, Tryz.ntmps54
    go_wp2_with fail
    go_ret
    exact ⟨_, _, _, rfl, RowAt.nil, Below.refl _ _⟩
  | some a =>
    have heq : ∀ w, (binOp .eql 36 (.slice (some a) l.length cap) (.slice none 0 0)).run Tryz.prog w = .ok (.bool false) w := fun w => Lib.run_eql_slice_nil w _ _ (some a) l.length cap 0 0 Tryz.underlying36
    have hss : ∀ x ∈ l, x.size ≤ 140737488351232 := fun x hx => by
      obtain ⟨j, hj, rfl⟩ := List.getElem_of_mem hx
      obtain ⟨g, off, _, _, hr⟩ := h3 (by omega)
      exact (hr j _ (List.getElem?_eq_getElem hj)).2
    obtain ⟨v', w3, qrun, hown, hb3, A', c', rfl⟩ := runCopy (t := 36) (bytes := 16) Tryz.underlying36 string_info rfl (by omega) w 36 (some a) l.length cap (l.map Value.string) (by simp)
      (fun hp => by
        obtain ⟨g, off, e, _, hr⟩ := h3 hp
        refine ⟨g, off, e, fun j u hu => ?_⟩
        rw [List.getElem?_map] at hu
        cases hx : l[j]? with
        | none => rw [hx] at hu; cases hu
        | some x =>
          rw [hx] at hu
          injection hu with hu
          subst hu
          have := (hr j x hx).1
          rwa [Nat.mul_one] at this) (by intro u hu; obtain ⟨x, _, rfl⟩ := List.mem_map.1 hu; rfl) hz (by omega)
    have HO := Lib.hid (own_strs hown hss)
    clear hown h3 hss
    go_enter Tryz.func54, Tryz.ntmps54
    go_wp2_with (at_builtin
                 refine wpList_append_run _ rfl (.tmp 5) (.tmp 6) _ rfl _ _ rfl rfl _ _ qrun ?_
                 clear qrun)
    go_ret
    exact ⟨_, _, _, rfl, HO.out, hb3⟩
set_option maxRecDepth 100000 in
/-- Macro. -/
theorem cMacroS (n : ByteArray) (K0 : Nat → Prop) (v v2 : Value) (ls : List Ln) (ags : List ByteArray) (hs : n.size ≤ maxLen) (hal : ags.length * 16 ≤ 140737488355328) (hv : LnsAt K0 w v ls) (hv2 : SsAt K0 w v2 ags) (hK0 : ∀ k, K0 k → k < w.heap.size) (h : CKt U K w x fs) :
    Calls Tryz.prog 18 #[.pointer (some ⟨x, 0, none⟩), .string n, v, v2] w fun e w' => e = .returned (.int .i64 (putE (nmdB n && lsOk ls) fs)) ∧ ZTo U K w w' x (putF (nmdB n && lsOk ls) fs (macFr n ls ags)) := by
  have HZ := Lib.hid (h.unmade (Below.refl _ _))
  have HN := Lib.hid (fun w => cValidName n hs w)
  have HV := Lib.hid (cValidLines K0 v ls w hv hK0)
  have HS := Lib.hid (fun w' (hb : Below w.heap.size w w') => ZTo.same h hb)
  have HC := Lib.hid (fun (w1 : World) (hb : Below w.heap.size w w1) (h20 : ls.length ≤ 20000) => cCopyLns (K := K0) v ls (hv.stay (Kept.of_below hb hK0) (fun _ h => h)) (fun k hk => Nat.lt_of_lt_of_le (hK0 k hk) hb.size) (by omega))
  have HA := Lib.hid (fun (w1 : World) (hb : Below w.heap.size w w1) => cCloneS K0 v2 ags w1 (hv2.stay (Kept.of_below hb hK0) (fun _ h => h)) hal)
  obtain ⟨Av, cv, rfl, hn1, _, _⟩ := id hv
  obtain ⟨Av2, cv2, rfl, _, _, _⟩ := id hv2
  unfold putE putF
  cases hn : nmdB n
  · rw [hn] at HN
    rw [Bool.false_and]
    simp only [Bool.false_eq_true, if_false]
    clear h hv hv2
    go_enter Tryz.func18, Tryz.ntmps18
    go_wp2_with (first
      | (go_at_call 41; refine HZ.out.mono ?_; rintro e w1 ⟨rfl, hw⟩; rw [hw]; clear hw)
      | (go_at_call 46; refine (HN.out _).mono ?_; rintro e w2 ⟨rfl, hw⟩; rw [hw]; clear hw))
    go_ret
    exact ⟨rfl, HS.out _ (Below.refl _ _)⟩
  · rw [hn] at HN
    rw [Bool.true_and]
    cases hx : lsOk ls
    · rw [hx] at HV
      simp only [Bool.false_eq_true, if_false]
      clear h hv hv2
      go_enter Tryz.func18, Tryz.ntmps18
      go_wp2_with (first
        | (go_at_call 41; refine HZ.out.mono ?_; rintro e w1 ⟨rfl, hw⟩; rw [hw]; clear hw)
        | (go_at_call 46; refine (HN.out _).mono ?_; rintro e w2 ⟨rfl, hw⟩; rw [hw]; clear hw)
        | (go_at_call 47; refine HV.out.mono ?_; rintro e w1 ⟨rfl, hb1⟩))
      go_ret
      exact ⟨rfl, HS.out _ hb1⟩
    · rw [hx] at HV
      simp only [if_true]
      have H20 : Hid (ls.length ≤ 20000) := Lib.hid (by
        unfold lsOk at hx
        rw [Bool.and_eq_true, decide_eq_true_eq] at hx
        exact hx.2)
      have hok : (macFr n ls ags).Ok := by
        unfold lsOk at hx
        unfold nmdB at hn
        rw [Bool.and_eq_true, decide_eq_true_eq] at hx
        rw [Bool.and_eq_true, decide_eq_true_eq, decide_eq_true_eq] at hn
        exact ⟨.inr (.inl rfl), hn.2, hx.2, hal, Nat.zero_le _⟩
      have HP := Lib.hid (fun (w2 : World) (A : Option Addr) (k c : Nat) (A2 : Option Addr) (k2 c2 : Nat) (hb : Below w.heap.size w w2) (hl : LnsAt (fun k => w.heap.size ≤ k ∧ k < w2.heap.size) w2 (.slice A k c) ls) (hl2 : SsAt (fun k => w.heap.size ≤ k ∧ k < w2.heap.size) w2 (.slice A2 k2 c2) ags) =>
        cPush (w := w2) (macFr n ls ags) A k c A2 k2 c2 hok ⟨hl.stay (fun _ _ _ => rfl) (fun i hi => .inr hi), hl2.stay (fun _ _ _ => rfl) (fun i hi => .inr hi)⟩ (h.since hb))
      clear h hv hv2
      go_enter Tryz.func18, Tryz.ntmps18
      go_wp2_with (first
        | (go_at_call 41; refine HZ.out.mono ?_; rintro e w1 ⟨rfl, hw⟩; rw [hw]; clear hw)
        | (go_at_call 46; refine (HN.out _).mono ?_; rintro e w2 ⟨rfl, hw⟩; rw [hw]; clear hw)
        | (go_at_call 47; refine HV.out.mono ?_; rintro e w1 ⟨rfl, hb1⟩; have HB1 := Lib.hid hb1; clear hb1)
        | (go_at_call 53; refine (HC.out _ HB1.out H20.out).mono ?_; rintro e w2 ⟨v2, rfl, hl2, hb2⟩; obtain ⟨A2, n2, c2, rfl⟩ : ∃ A n c, v2 = .slice A n c := (by obtain ⟨A, c, e, _⟩ := hl2; exact ⟨A, _, c, e⟩); have HB2 := Lib.hid (HB1.out.trans (hb2.mono HB1.out.size)); have HL2 := Lib.hid (hl2.stay (K' := fun k => w.heap.size ≤ k ∧ k < w2.heap.size) (fun _ _ _ => rfl) (fun i hi => ⟨Nat.le_trans HB1.out.size hi.1, hi.2⟩)); clear hl2 hb2)
        | (go_at_call 54; refine (HA.out _ HB2.out).mono ?_; rintro e w3 ⟨A3, n3, c3, rfl, hs3, hb3⟩; have HB3 := Lib.hid (HB2.out.trans (hb3.mono HB2.out.size)); have HL3 := Lib.hid (HL2.out.stay (K' := fun k => w.heap.size ≤ k ∧ k < w3.heap.size) (Kept.of_all hb3) (fun i hi => ⟨hi.1, Nat.lt_of_lt_of_le hi.2 hb3.size⟩)); have HS3 := Lib.hid (hs3.stay (K' := fun k => w.heap.size ≤ k ∧ k < w3.heap.size) (fun _ _ _ => rfl) (fun i hi => ⟨Nat.le_trans HB2.out.size hi.1, hi.2⟩)); clear hs3 hb3)
        | (go_at_call 48; refine (HP.out _ _ _ _ _ _ _ HB3.out HL3.out HS3.out).mono ?_; rintro e w4 ⟨rfl, hq⟩))
      go_ret
      exact ⟨rfl, ZTo.since HB3.out hq⟩
end
end Go.Proofs.YtpgkhhchpojlaaaGreatDoor
