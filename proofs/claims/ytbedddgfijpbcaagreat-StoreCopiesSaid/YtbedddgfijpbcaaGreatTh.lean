/- Walks: texts, entry: an entry is told of alike. Walk: alike: both stores tell the same. -/
import Derived.Test.YtbedddgfijpbcaaGreatTa
import Derived.Test.YtbedddgfijpbcaaGreatQy
import Derived.Test.YtbedddgfijpbcaaGreatNm
namespace Go.Proofs.YtbedddgfijpbcaaGreat
open Go.RowKit Go.Maps Go.WideMaps

section
variable {L M : List Ent} {E : Nat → En} {es : List En} {s : ByteArray}
theorem Sim.fd (h : Sim L E M es) (s : ByteArray) : fdE L s = fdE M s := by unfold fdE; rw [h.has]
theorem Sim.li (h : Sim L E M es) (s : ByteArray) : lnI L E s = lnI M (eF es) s := by
  unfold lnI
  rw [← h.has]
  cases hh : hasB L s
  · rfl
  · rw [h.val s hh]
theorem Sim.kd (h : Sim L E M es) (s : ByteArray) : kdI L E s = kdI M (eF es) s := by
  unfold kdI
  rw [← h.has]
  cases hh : hasB L s
  · rfl
  · rw [h.val s hh]
theorem Sim.ln (h : Sim L E M es) (s : ByteArray) : lnOf L E s = lnOf M (eF es) s := by
  unfold lnOf
  rw [← h.has]
  cases hh : hasB L s
  · rfl
  · rw [h.val s hh]
theorem Sim.tx (h : Sim L E M es) (s : ByteArray) : txV L E s = txV M (eF es) s := by
  unfold txV
  rw [← h.has]
  cases hh : hasB L s
  · rfl
  · rw [h.val s hh]
theorem tx_form (L : List Ent) (E : Nat → En) (s : ByteArray) : ∃ t k, txV L E s = .tuple #[.string t, .int .i64 k] := by
  unfold txV
  cases hasB L s
  · exact ⟨_, _, rfl⟩
  · cases E (getR L s) <;> exact ⟨_, _, rfl⟩
end
/-- Names in a row. -/
def txR (w : World) (g o : Nat) (s : ByteArray) : Prop := w.cell? ⟨g, o, none⟩ = some (.string s)
abbrev TxAt (K : Nat → Prop) := RowAt 1 txR K
theorem TxAt.stay {K K' : Nat → Prop} {w w' : World} {v : Value} {l : List ByteArray} (h : TxAt K w v l) (hw : Kept K w w') (hK : ∀ i, K i → K' i) : TxAt K' w' v l :=
  RowAt.imp h hK (fun _ _ _ _ ha hr => hw.cell ha hr)
theorem txt_own {w : World} {b : Nat} {v : Value} {L : List Ent} (h : w.ownsRow b 9 1 v L.length (L.map fun p => .string p.1)) : TxAt (fun i => b ≤ i ∧ i < w.heap.size) w v (L.map (·.1)) := by
  rcases h.2 with ⟨rfl, e⟩ | ⟨g, cap, cur, rfl, hbg, hg, hn, hm, _⟩
  · exact ⟨none, 0, by rw [List.length_map, e], by rw [List.length_map]; omega, Nat.zero_le _, fun h0 => by rw [List.length_map] at h0; omega⟩
  · refine ⟨_, cap, by rw [List.length_map], by rw [List.length_map]; exact hn, hm, fun _ => ⟨g, 0, rfl, ⟨hbg, (show Blk w g 9 cur from hg).lt⟩, fun i x hx => ?_⟩⟩
    have hil := (List.getElem?_eq_some_iff.1 hx).1
    rw [List.length_map] at hil
    rw [List.getElem?_map] at hx
    show w.cell? ⟨g, 0 + i * 1, none⟩ = _
    rw [Nat.zero_add, Nat.mul_one, h.cellAt i (by omega), List.getElem?_map]
    cases hp : L[i]? with
    | none => rw [hp] at hx; cases hx
    | some p =>
      rw [hp] at hx
      have : p.1 = x := by simpa using hx
      rw [← this]; rfl
/-- texts, of the same. -/
theorem lTexts (K K2 : Nat → Prop) (v v2 : Value) (l : List ByteArray) (w : World) (h : TxAt K w v l) (h2 : TxAt K2 w v2 l) :
    Calls Tryz.prog 34 #[v, v2] w fun e w' => e = .returned (.bool true) ∧ Below w.heap.size w w' := by
  obtain ⟨A, cap, rfl, a1, a2, a3⟩ := h
  obtain ⟨A2, cap2, rfl, b1, b2, b3⟩ := h2
  have HA := Lib.hid a3
  have HB := Lib.hid b3
  clear a3 b3
  unfold maxLen at a2 b2
  have hne : ((l.length : Int) != (l.length : Int)) = false := by simp
  go_enter Tryz.func34, Tryz.ntmps34
  go_wp2_with fail
  go_loopw [5] (fun v5 wr => ∃ k : Nat, k ≤ l.length ∧ v5 = .int .i64 k ∧ ∃ n : Nat, wr = w.drewN n) (fun v5 _ => l.length - (intOf v5).toNat)
  case atStart => exact ⟨0, Nat.zero_le _, rfl, 0, rfl⟩
  case round =>
    obtain ⟨k, hk, rfl, n, rfl⟩ := hrel
    by_cases hlt : k < l.length
    · obtain ⟨g, off, rfl, _, hr⟩ := HA.out (by omega)
      obtain ⟨g2, off2, rfl, _, hr2⟩ := HB.out (by omega)
      have hx : l[k]? = some l[k] := List.getElem?_eq_getElem hlt
      have c0 := hr k _ hx
      have d0 := hr2 k _ hx
      unfold txR at c0 d0
      rw [Nat.mul_one] at c0 d0
      have HX := Lib.hid hx
      clear hr hr2 hx
      generalize l[k] = x at *
      have hxx : (x.toList != x.toList) = false := by simp
      go_wp2
      go_quiet (fail)
      go_wp2
      go_roundw
      case rel => exact ⟨k + 1, by omega, by go_num, _, rfl⟩
      case measure => simp [intOf]; omega
    · go_wp2
      go_ret
      exact ⟨rfl, rfl, rfl, rfl, Nat.le_refl _, fun _ _ => rfl⟩
section
variable {U F U2 K2 : Nat → Prop} {R : Nat → Option Nat} {w w' : World} {g bm x : Nat} {L M : List Ent} {E : Nat → En} {es : List En}
set_option maxRecDepth 100000 in
set_option maxHeartbeats 2000000 in
/-- entry. -/
theorem bEntry (s : ByteArray) (hs : s.size ≤ maxLen) (h : StAt U F R w g bm L E) (h2 : RSt U2 K2 w x M es) (hS : Sim L E M es) :
    Calls Tryz.prog 36 #[.pointer (some ⟨g, 0, none⟩), .pointer (some ⟨x, 0, none⟩), .string s] w fun e w' => e = .returned (.bool true) ∧ Below w.heap.size w w' := by
  obtain ⟨t, kt, ht⟩ := tx_form L E s
  have hT1 := cTxt s hs h
  have hT2 := nTxt s h2
  rw [← hS.tx s] at hT2
  rw [ht] at hT1 hT2
  have HT1 := Lib.hid hT1
  have HT2 := Lib.hid hT2
  have HL1 := Lib.hid (cLines s hs h)
  have hL2 := fun (w1 : World) (hb : Below w.heap.size w w1) => nLines s (h2.below hb)
  rw [← hS.ln s, ← hS.fd s] at hL2
  have HL2 := Lib.hid hL2
  have HN1 := Lib.hid (fun (w1 : World) (hb : Below w.heap.size w w1) => cLength s hs (h.below hb))
  have hN2 := fun (w1 : World) (hb : Below w.heap.size w w1) => nLength s (h2.below hb)
  rw [← hS.li s, ← hS.fd s] at hN2
  have HN2 := Lib.hid hN2
  have HK1 := Lib.hid (fun (w1 : World) (hb : Below w.heap.size w w1) => cKind s hs (h.below hb))
  have hK2 := fun (w1 : World) (hb : Below w.heap.size w w1) => nKind s (h2.below hb)
  rw [← hS.kd s] at hK2
  have HK2 := Lib.hid hK2
  clear hT1 hT2 hL2 hN2 hK2 h h2 hS ht
  generalize lnOf L E s = ls at *
  generalize fdE L s = fd at *
  generalize lnI L E s = li at *
  generalize kdI L E s = kd at *
  have e1 : (t.toList == t.toList) = true := by simp
  have e2 : (kt == kt) = true := by simp
  have e3 : (fd == fd) = true := by simp
  have e4 : (li == li) = true := by simp
  have e5 : (kd == kd) = true := by simp
  go_enter Tryz.func36, Tryz.ntmps36
  go_wp2_with (first
    | (go_at_call 16; refine HT1.out.mono ?_; rintro e w1 ⟨rfl, rfl⟩)
    | (go_at_call 62; refine HT2.out.mono ?_; rintro e w1 ⟨rfl, rfl⟩)
    | (go_at_call 63; refine HL1.out.mono ?_; rintro e w1 ⟨A1, n1, c1, rfl, hl1, hb1⟩; have LL1 := Lib.hid hl1; clear hl1)
    | (go_at_call 64; refine (HL2.out _ hb1).mono ?_; rintro e w2 ⟨A2, n2, c2, rfl, hl2, hb2⟩; have LL2 := Lib.hid hl2; clear hl2)
    | (go_at_call 65; refine (HN1.out _ (ntrans hb1 hb2)).mono ?_; rintro e w3 ⟨rfl, rfl⟩)
    | (go_at_call 66; refine (HN2.out _ (ntrans hb1 hb2)).mono ?_; rintro e w3 ⟨rfl, hb3⟩)
    | (go_at_call 67; refine (lSame (fun k => w.heap.size ≤ k ∧ k < w1.heap.size) (fun k => w1.heap.size ≤ k ∧ k < w2.heap.size) _ _ ls _ (LL1.out.stay (Kept.of_all (ntrans hb2 hb3)) (fun _ h => h)) (LL2.out.stay (Kept.of_all hb3) (fun _ h => h)) (fun k hk => Nat.lt_of_lt_of_le hk.2 (ntrans hb2 hb3).size) (fun k hk => Nat.lt_of_lt_of_le hk.2 hb3.size)).mono ?_; rintro e w4 ⟨rfl, hb4⟩)
    | (go_at_call 68; refine (HK1.out _ (ntrans (ntrans hb1 hb2) (ntrans hb3 hb4))).mono ?_; rintro e w5 ⟨rfl, rfl⟩)
    | (go_at_call 69; refine (HK2.out _ (ntrans (ntrans hb1 hb2) (ntrans hb3 hb4))).mono ?_; rintro e w5 ⟨rfl, rfl⟩))
  go_ret
  exact ⟨rfl, ntrans (ntrans hb1 hb2) (ntrans hb3 hb4)⟩
end
end Go.Proofs.YtbedddgfijpbcaaGreat
namespace Go.Proofs.YtbedddgfijpbcaaGreat
open Go.RowKit Go.Maps Go.WideMaps

section
variable {U F U2 K2 : Nat → Prop} {R : Nat → Option Nat} {w w' : World} {g bm x : Nat} {L M : List Ent} {E : Nat → En} {es : List En}
set_option maxRecDepth 100000 in
set_option maxHeartbeats 2000000 in
/-- alike. -/
theorem bAlike (s : ByteArray) (hs : s.size ≤ maxLen) (h : StAt U F R w g bm L E) (h2 : RSt U2 K2 w x M es) (hS : Sim L E M es) :
    Calls Tryz.prog 11 #[.pointer (some ⟨g, 0, none⟩), .pointer (some ⟨x, 0, none⟩), .string s] w fun e w' => e = .returned (.bool true) ∧ Below w.heap.size w w' := by
  have HE := Lib.hid (fun (s : ByteArray) (hs : s.size ≤ maxLen) (w1 : World) (hb : Below w.heap.size w w1) => bEntry s hs (h.below hb) (h2.below hb) hS)
  have HN2 := Lib.hid (nNames h2)
  have HN1 := Lib.hid (fun (w1 : World) (hb : Below w.heap.size w w1) => cNames (h.below hb))
  have hnm := hS.names
  have hgood := h2.srt.2.2
  have hlen := h2.srt.2.1
  have HTx : Hid (∀ (w1 w2 : World) (u v : Value), Below w1.heap.size w1 w2 → w1.ownsRow w.heap.size 9 1 u M.length (M.map fun p => .string p.1) → w2.ownsRow w1.heap.size 9 1 v L.length (L.map fun p => .string p.1) → Calls Tryz.prog 34 #[v, u] w2 fun e w' => e = .returned (.bool true) ∧ Below w2.heap.size w2 w') := Lib.hid (fun w1 w2 u v hb h1 h2 => by
    have q1 := (txt_own h1).stay (K' := fun i => w.heap.size ≤ i ∧ i < w1.heap.size) (Kept.of_all hb) (fun _ h => h)
    have q2 := txt_own h2
    rw [hnm] at q2
    exact lTexts _ _ v u _ w2 q2 q1)
  have HGood : Hid (∀ (k : Nat) p, M[k]? = some p → p.1.size ≤ maxLen) := Lib.hid (fun k p hp => by
    have := hgood p (List.mem_of_getElem? hp)
    unfold nameB at this
    simp only [Bool.and_eq_true, decide_eq_true_eq] at this
    unfold maxLen; omega)
  clear h h2 hS hnm hgood
  go_enter Tryz.func11, Tryz.ntmps11
  go_wp2_with (first
    | (go_at_call 33; refine HN2.out.mono ?_; rintro e w1 ⟨u, rfl, hu, hb1⟩; obtain ⟨Au, cu, rfl, hcu, hgu⟩ := own_form2 hu; have HU := Lib.hid hu; have HGu := Lib.hid hgu; clear hu hgu)
    | (go_at_call 35; refine (HN1.out _ hb1).mono ?_; rintro e w2 ⟨v, rfl, hv, hb2⟩; obtain ⟨Av, cv, rfl, hcv, _⟩ := own_form2 hv; have HV := Lib.hid hv; clear hv)
    | (go_at_call 34; refine (HTx.out _ _ _ _ hb2 HU.out HV.out).mono ?_; rintro e w3 ⟨rfl, hb3⟩)
    | (go_at_call 36; refine (HE.out s hs _ (ntrans (ntrans hb1 hb2) hb3)).mono ?_; rintro e w4 ⟨rfl, hb4⟩))
  have hbt := ntrans (ntrans hb1 hb2) (ntrans hb3 hb4)
  have hbu := ntrans hb2 (ntrans hb3 hb4)
  have HBT := Lib.hid hbt
  have HBU := Lib.hid hbu
  clear hb2 hb3 hb4 hbt hbu HV HTx HN1 HN2
  go_loopw [8] (fun v8 wr => ∃ k : Nat, k ≤ M.length ∧ v8 = .int .i64 k ∧ Below w4.heap.size w4 wr) (fun v8 _ => M.length - (intOf v8).toNat)
  case atStart => exact ⟨0, Nat.zero_le _, rfl, Below.refl _ _⟩
  case round =>
    obtain ⟨k, hk, rfl, hb⟩ := hrel
    by_cases hlt : k < M.length
    · obtain ⟨gu, rfl⟩ := HGu.out (by omega)
      have hp := List.getElem?_eq_getElem hlt
      generalize M[k] = p at hp
      have hc := HU.out.cellAt k (by omega)
      rw [List.getElem?_map, hp] at hc
      have hc : w1.cell? ⟨gu, k, none⟩ = some (.string p.1) := hc
      have hc4 : wr.cell? ⟨gu, k, none⟩ = some (.string p.1) := ((ntrans HBU.out hb).cell (p := ⟨gu, k, none⟩) (cell_lt hc)).trans hc
      have HE4 := Lib.hid (HE.out p.1 (HGood.out k p hp) wr (ntrans HBT.out hb))
      clear hp hc
      go_wp2_with (go_at_call 36; refine HE4.out.mono ?_; rintro e w5 ⟨rfl, hb5⟩)
      go_roundw
      case rel => exact ⟨k + 1, by omega, by go_num, ntrans hb hb5⟩
      case measure => simp [intOf]; omega
    · go_wp2
      go_ret
      exact ⟨rfl, ntrans HBT.out hb⟩
end
end Go.Proofs.YtbedddgfijpbcaaGreat
