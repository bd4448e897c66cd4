/- Walks of the code's stack: Return, Instead, Copy. -/
import Derived.Test.YtpgkhhchpojlaaaGreatDoorCm
import Derived.Test.YtpgkhhchpojlaaaGreatDoorCc
namespace Go.Proofs.YtpgkhhchpojlaaaGreatDoor
open Go.RowKit Go.Maps Go.WideMaps

section
variable {U K : Nat → Prop} {w w' : World} {x r cap : Nat} {zs : List Fv} {fs : List Fr}
/-- What cut leaves. -/
theorem cCutS (h : CK U K w x zs r cap) {n : Nat} (hn : n ≤ zs.length) :
    Calls Tryz.prog 51 #[.pointer (some ⟨x, 0, none⟩), .int .i64 (n : Nat)] w fun e w' => e = .returned (.tuple #[]) ∧ CKt U K w' x ((zs.map (·.1)).take n) ∧ Turn U w w' :=
  (cCut h hn).mono fun _e _w' ⟨h1, h2, h3⟩ => ⟨h1, ⟨_, _, _, h2, List.map_take⟩, h3⟩
theorem ZTo.of_cut {w1 : World} {fs' : List Fr} (hb : Below w.heap.size w w1) (hc : CKt U K w' x fs') (hT : Turn U w1 w') : ZTo U K w w' x fs' :=
  ⟨U, K, hc, (Turn.of_below hb : Turn U w w1).trans hT (fun _ _ h => h), fun _ h => .inl h, fun _ h => .inl h⟩
set_option maxRecDepth 100000 in
/-- Return. -/
theorem cReturn (all : Bool) (h : CKt U K w x fs) : Calls Tryz.prog 21 #[.pointer (some ⟨x, 0, none⟩), .bool all] w fun e w' => e = .returned (.int .i64 (rtE fs)) ∧ ZTo U K w w' x (rtF all fs) := by
  have HZ := Lib.hid (h.unmade (Below.refl _ _))
  have HS := Lib.hid (fun w' (hb : Below w.heap.size w w') => ZTo.same h hb)
  obtain ⟨zs, r, cap, h, rfl⟩ := h
  unfold rtE rtF macN
  cases hq : topN (Fr.is 2) (zs.map (·.1)) with
  | zero =>
    have HT := Lib.hid (cTop0 h eMacro aMacro hq)
    simp only [if_true]
    clear h hq
    go_enter Tryz.func21, Tryz.ntmps21
    go_wp2_with (first
      | (go_at_call 41; refine HZ.out.mono ?_; rintro e w1 ⟨rfl, hw⟩; rw [hw]; clear hw)
      | (go_at_call 49; refine HT.out.mono ?_; rintro e w1 ⟨rfl, hb1⟩))
    go_ret
    exact ⟨rfl, HS.out _ hb1⟩
  | succ q =>
    have HT := Lib.hid (cTopS h eMacro aMacro hq)
    obtain ⟨z, hz, hlt, _, _⟩ := top_z hq
    have hne : ¬ (q + 1 = 0) := by omega
    simp only [hne, if_false, Nat.add_sub_cancel]
    cases all
    · simp only [Bool.false_eq_true, if_false]
      have HC := Lib.hid (fun (w1 : World) (hb : Below w.heap.size w w1) => cCutS (h.below hb) (n := q) (by omega))
      clear h hq hz hne
      go_enter Tryz.func21, Tryz.ntmps21
      go_wp2_with (first
        | (go_at_call 41; refine HZ.out.mono ?_; rintro e w1 ⟨rfl, hw⟩; rw [hw]; clear hw)
        | (go_at_call 49; refine HT.out.mono ?_; rintro e w1 ⟨rfl, hb1⟩)
        | (go_at_call 51; refine (HC.out _ hb1).mono ?_; rintro e w2 ⟨rfl, hc2, hT2⟩))
      go_ret
      exact ⟨rfl, ZTo.of_cut hb1 hc2 hT2⟩
    · simp only [if_true]
      have hlow : lowN (zs.map (·.1)) ≤ zs.length := by have := List.findIdx_le_length (p := Fr.is 2) (xs := zs.map (·.1)); rwa [List.length_map] at this
      have HLo := Lib.hid (fun (w1 : World) (hb : Below w.heap.size w w1) => cLowest (h.below hb) (by omega))
      have HC := Lib.hid (fun (w1 : World) (hb : Below w.heap.size w w1) => cCutS (h.below hb) hlow)
      clear h hq hz hne
      generalize lowN (zs.map (·.1)) = lo at *
      go_enter Tryz.func21, Tryz.ntmps21
      go_wp2_with (first
        | (go_at_call 41; refine HZ.out.mono ?_; rintro e w1 ⟨rfl, hw⟩; rw [hw]; clear hw)
        | (go_at_call 49; refine HT.out.mono ?_; rintro e w1 ⟨rfl, hb1⟩; have HB1 := Lib.hid hb1; clear hb1)
        | (go_at_call 56; refine (HLo.out _ HB1.out).mono ?_; rintro e w2 ⟨rfl, hb2⟩; have HB2 := Lib.hid (HB1.out.trans (hb2.mono HB1.out.size)); clear hb2)
        | (go_at_call 51; refine (HC.out _ HB2.out).mono ?_; rintro e w3 ⟨rfl, hc2, hT2⟩))
      go_ret
      exact ⟨rfl, ZTo.of_cut HB2.out hc2 hT2⟩
/-- A file in the place of another. -/
theorem in_push {f : Fr} {q : Nat} (hok : AllOk fs) (hin : Inv fs) (hq : filN fs = q + 1) : psE (fs.take q) = 0 ∧ psF (fs.take q) f = fs.take q ++ [f] := by
  have hle := topN_le (p := Fr.is 1) fs
  have hle' : q + 1 ≤ fs.length := by rw [← hq]; exact hle
  have hb : baseN (fs.take q) = q := topN_of (by rw [List.length_take]; omega) (fun j f hj hf => by
    have := (List.getElem?_eq_some_iff.1 hf).1
    rw [List.length_take] at this
    omega) (fun h0 => by
    have hx := List.getElem?_eq_getElem (show q - 1 < fs.length by omega)
    exact ⟨_, by rw [List.getElem?_take, if_pos (by omega)]; exact hx, hin _ _ (by omega) hx⟩)
  have := hok.1
  unfold psE psF
  rw [hb, if_neg (by omega), if_neg (by omega), List.take_take, Nat.min_self]
  exact ⟨rfl, rfl⟩
set_option maxRecDepth 100000 in
set_option maxHeartbeats 1000000 in
/-- Instead. -/
theorem cInstead (n t : ByteArray) (hs : n.size ≤ maxLen) (ht : t.size ≤ 1000000) (h : CKt U K w x fs) :
    Calls Tryz.prog 22 #[.pointer (some ⟨x, 0, none⟩), .string n, .string t] w fun e w' => e = .returned (.int .i64 (inE (nmdB n && rdB t) fs)) ∧ ZTo U K w w' x (inF (nmdB n && rdB t) fs (filFr n t)) := by
  have HF := Lib.hid (cFileFrame n t ht w)
  have HZ := Lib.hid (fun (w1 : World) (hb : Below w.heap.size w w1) => h.unmade hb)
  have HN := Lib.hid (fun w => cValidName n hs w)
  have HS := Lib.hid (fun w' (hb : Below w.heap.size w w') => ZTo.same h hb)
  have HV := Lib.hid (fun (w1 w2 : World) (A : Option Addr) (k c : Nat) (hl : LnsAt (fun k => w.heap.size ≤ k ∧ k < w1.heap.size) w1 (.slice A k c) (rdL t)) (hb : Below w1.heap.size w1 w2) =>
    cValidLines (fun k => w.heap.size ≤ k ∧ k < w1.heap.size) _ (rdL t) w2 (hl.on hb) (fun k hk => Nat.lt_of_lt_of_le hk.2 hb.size))
  unfold inE inF
  rw [rd_ok] at HV
  cases hn : nmdB n
  · rw [hn] at HN
    rw [Bool.false_and]
    simp only [Bool.false_eq_true, if_false]
    clear h
    go_enter Tryz.func22, Tryz.ntmps22
    go_wp2_with (first
      | (go_at_call 45; refine HF.out.mono ?_; rintro e w1 ⟨A, k, c, rfl, hl, hb1⟩; have HB := Lib.hid (hb1.alloc hb1.size (.cells #[.int .i64 1, .string n, .slice A k c, .int .i64 0, .slice none 0 0] 62)); clear hl hb1)
      | (go_at_call 41; refine (HZ.out _ HB.out).mono ?_; rintro e w2 ⟨rfl, hw⟩; rw [hw]; clear hw)
      | (go_at_call 46; refine (HN.out _).mono ?_; rintro e w2 ⟨rfl, hw⟩; rw [hw]; clear hw))
    go_ret
    exact ⟨rfl, HS.out _ HB.out⟩
  · rw [hn] at HN
    rw [Bool.true_and]
    cases hr : rdB t
    · rw [hr] at HV
      simp only [Bool.false_eq_true, if_false]
      clear h
      go_enter Tryz.func22, Tryz.ntmps22
      go_wp2_with (first
        | (go_at_call 45; refine HF.out.mono ?_; rintro e w1 ⟨A, k, c, rfl, hl, hb1⟩; have HB := Lib.hid (hb1.alloc hb1.size (.cells #[.int .i64 1, .string n, .slice A k c, .int .i64 0, .slice none 0 0] 62)); have HL := Lib.hid hl; have hbf := Blk.new w1 62 #[.int .i64 1, .string n, .slice A k c, .int .i64 0, .slice none 0 0]; have d2 := hbf.cell 2; simp only [List.getElem?_toArray, List.getElem?_cons_zero, List.getElem?_cons_succ] at d2; clear hl hb1 hbf)
        | (go_at_call 41; refine (HZ.out _ HB.out).mono ?_; rintro e w2 ⟨rfl, hw⟩; rw [hw]; clear hw)
        | (go_at_call 46; refine (HN.out _).mono ?_; rintro e w2 ⟨rfl, hw⟩; rw [hw]; clear hw)
        | (go_at_call 47; refine (HV.out _ _ _ _ _ HL.out ((Below.refl _ _).alloc (Nat.le_refl _) _)).mono ?_; rintro e w2 ⟨rfl, hb2⟩))
      go_ret
      exact ⟨rfl, HS.out _ (HB.out.trans (hb2.mono HB.out.size))⟩
    · rw [hr] at HV
      simp only [if_true]
      unfold isE isF
      have hok := h.ok
      have hin := h.inv
      cases hq : filN fs with
      | zero =>
        simp only [if_true]
        have HT : Hid (∀ w1, Below w.heap.size w w1 → Calls Tryz.prog 49 #[.pointer (some ⟨x, 0, none⟩), .func (.func 57) #[] #[]] w1 fun e w' => e = .returned (.int .i64 (-1)) ∧ Below w1.heap.size w1 w') := Lib.hid (fun w1 hb => by
          obtain ⟨zs, r, cap, h1, rfl⟩ := h.below hb
          exact cTop0 h1 eFile aFile hq)
        clear h
        go_enter Tryz.func22, Tryz.ntmps22
        go_wp2_with (first
          | (go_at_call 45; refine HF.out.mono ?_; rintro e w1 ⟨A, k, c, rfl, hl, hb1⟩; have HB := Lib.hid (hb1.alloc hb1.size (.cells #[.int .i64 1, .string n, .slice A k c, .int .i64 0, .slice none 0 0] 62)); have HL := Lib.hid hl; have hbf := Blk.new w1 62 #[.int .i64 1, .string n, .slice A k c, .int .i64 0, .slice none 0 0]; have d2 := hbf.cell 2; simp only [List.getElem?_toArray, List.getElem?_cons_zero, List.getElem?_cons_succ] at d2; clear hl hb1 hbf)
          | (go_at_call 41; refine (HZ.out _ HB.out).mono ?_; rintro e w2 ⟨rfl, hw⟩; rw [hw]; clear hw)
          | (go_at_call 46; refine (HN.out _).mono ?_; rintro e w2 ⟨rfl, hw⟩; rw [hw]; clear hw)
          | (go_at_call 47; refine (HV.out _ _ _ _ _ HL.out ((Below.refl _ _).alloc (Nat.le_refl _) _)).mono ?_; rintro e w2 ⟨rfl, hb2⟩; have HB2 := Lib.hid (HB.out.trans (hb2.mono HB.out.size)); clear hb2)
          | (go_at_call 49; refine (HT.out _ HB2.out).mono ?_; rintro e w3 ⟨rfl, hb3⟩))
        go_ret
        exact ⟨rfl, HS.out _ (HB2.out.trans (hb3.mono HB2.out.size))⟩
      | succ q =>
        have hne : ¬ (q + 1 = 0) := by omega
        simp only [hne, if_false, Nat.add_sub_cancel]
        have HE := Lib.hid (in_push (f := filFr n t) hok hin hq)
        have hle : q ≤ fs.length := by have := topN_le (p := Fr.is 1) fs; unfold filN at hq; omega
        have HT : Hid (∀ w1, Below w.heap.size w w1 → Calls Tryz.prog 49 #[.pointer (some ⟨x, 0, none⟩), .func (.func 57) #[] #[]] w1 fun e w' => e = .returned (.int .i64 ((q : Nat) : Int)) ∧ Below w1.heap.size w1 w') := Lib.hid (fun w1 hb => by
          obtain ⟨zs, r, cap, h1, rfl⟩ := h.below hb
          exact cTopS h1 eFile aFile hq)
        have HC : Hid (∀ w2 w3, Below w.heap.size w w2 → Below w2.heap.size w2 w3 → Calls Tryz.prog 51 #[.pointer (some ⟨x, 0, none⟩), .int .i64 (q : Nat)] w3 fun e w' => e = .returned (.tuple #[]) ∧ CKt U (fun i => K i ∨ w.heap.size ≤ i ∧ i < w2.heap.size) w' x (fs.take q) ∧ Turn U w3 w') := Lib.hid (fun w2 w3 hb hb3 => by
          obtain ⟨zs, r, cap, h1, rfl⟩ := (h.since hb).below hb3
          exact cCutS h1 (by rw [List.length_map] at hle; exact hle))
        have HP : Hid (∀ (w1 w2 w3 w4 : World) (A : Option Addr) (k c : Nat), Below w.heap.size w w1 → LnsAt (fun k => w.heap.size ≤ k ∧ k < w1.heap.size) w1 (.slice A k c) (rdL t) → Below w1.heap.size w1 w2 → Below w2.heap.size w2 w3 → CKt U (fun i => K i ∨ w.heap.size ≤ i ∧ i < w2.heap.size) w4 x (fs.take q) → Turn U w3 w4 →
            Calls Tryz.prog 48 #[.pointer (some ⟨x, 0, none⟩), .agg #[.int .i64 1, .string n, .slice A k c, .int .i64 0, .slice none 0 0]] w4 fun e w' => e = .returned (.int .i64 0) ∧ ZTo U K w w' x (fs.take q ++ [filFr n t])) := Lib.hid (fun w1 w2 w3 w4 A k c hb1 hl hb2 hb3 hc4 hT => by
          have hb13 := hb2.trans (hb3.mono hb2.size)
          have hU := h.sets.2.1
          have hl4 : LnsAt (fun i => K i ∨ w.heap.size ≤ i ∧ i < w2.heap.size) w4 (.slice A k c) (rdL t) := (hl.stay (K' := fun k => w.heap.size ≤ k ∧ k < w1.heap.size) (Kept.of_all hb13) (fun _ h => h)).stay (Kept.of_turn hT (fun i hi hu => by have := hU i hu; omega)) (fun i hi => .inr ⟨hi.1, Nat.lt_of_lt_of_le hi.2 hb2.size⟩)
          refine (cPush (filFr n t) A k c none 0 0 (filFr_ok hn hr) ⟨hl4, RowAt.nil⟩ hc4).mono ?_
          rintro e w' ⟨rfl, hz⟩
          refine ⟨by rw [HE.out.1], ?_⟩
          rw [HE.out.2] at hz
          have hbw2 := hb1.trans (hb2.mono hb1.size)
          exact ZTo.since hbw2 (ZTo.trans ((Turn.of_below hb3 : Turn U w2 w3).trans hT (fun _ _ h => h)) (fun _ h => .inl h) (fun _ h => .inl h) hz))
        have HU := Lib.hid (fun i (hi : U i) => h.sets.2.1 i hi)
        clear h hle hok hin hq hne
        go_enter Tryz.func22, Tryz.ntmps22
        go_wp2_with (first
          | (go_at_call 45; refine HF.out.mono ?_; rintro e w1 ⟨A, k, c, rfl, hl, hb1⟩; have HB1 := Lib.hid hb1; have HB := Lib.hid (hb1.alloc hb1.size (.cells #[.int .i64 1, .string n, .slice A k c, .int .i64 0, .slice none 0 0] 62)); have HL := Lib.hid hl; have HBa : Hid (Below w1.heap.size w1 (w1.alloc (.cells #[.int .i64 1, .string n, .slice A k c, .int .i64 0, .slice none 0 0] 62))) := Lib.hid ((Below.refl _ _).alloc (Nat.le_refl _) _); have HBf := Lib.hid (Blk.new w1 62 #[.int .i64 1, .string n, .slice A k c, .int .i64 0, .slice none 0 0]); have d2 := HBf.out.cell 2; simp only [List.getElem?_toArray, List.getElem?_cons_zero, List.getElem?_cons_succ] at d2; clear hl hb1)
          | (go_at_call 41; refine (HZ.out _ HB.out).mono ?_; rintro e w2 ⟨rfl, hw⟩; rw [hw]; clear hw)
          | (go_at_call 46; refine (HN.out _).mono ?_; rintro e w2 ⟨rfl, hw⟩; rw [hw]; clear hw)
          | (go_at_call 47; refine (HV.out _ _ _ _ _ HL.out HBa.out).mono ?_; rintro e w2 ⟨rfl, hb2⟩; have HBf2 := Lib.hid (HBf.out.below hb2 HBf.out.lt); have HB2 := Lib.hid (HBa.out.trans (hb2.mono HBa.out.size)); have HBw := Lib.hid (HB1.out.trans (HB2.out.mono HB1.out.size)); clear hb2)
          | (go_at_call 49; refine (HT.out _ HBw.out).mono ?_; rintro e w3 ⟨rfl, hb3⟩; have HB3 := Lib.hid hb3; clear hb3)
          | (go_at_call 51; refine (HC.out _ _ HBw.out HB3.out).mono ?_; rintro e w4 ⟨rfl, hc4, hT4⟩; have hbf4 := hT4.blk (HBf2.out.below HB3.out HBf2.out.lt) (fun hu => by have := HU.out _ hu; have := HB1.out.size; omega); have z0 := hbf4.cell 0; have z1 := hbf4.cell 1; have z2 := hbf4.cell 2; have z3 := hbf4.cell 3; have z4 := hbf4.cell 4; simp only [List.getElem?_toArray, List.getElem?_cons_zero, List.getElem?_cons_succ] at z0 z1 z2 z3 z4; have HC4 := Lib.hid hc4; have HT4 := Lib.hid hT4; clear hbf4 hc4 hT4)
          | (go_at_call 48; refine (HP.out _ _ _ _ _ _ _ HB1.out HL.out HB2.out HB3.out HC4.out HT4.out).mono ?_; rintro e w5 ⟨rfl, hq⟩))
        go_ret
        exact ⟨rfl, hq⟩
end
end Go.Proofs.YtpgkhhchpojlaaaGreatDoor
