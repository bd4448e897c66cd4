/- Walks: lists of texts are compared; the statement on joined lines. -/
import Derived.Test.YtbkcnopkibdlbaaDoorJf
import Derived.Test.YtbkcnopkibdlbaaDoorAl
namespace Go.Proofs.YtbkcnopkibdlbaaDoor
open Go.RowKit Go.Shelf

/-- What an owned row of texts is, for a reader. -/
theorem own_read {w : World} {B : Nat} {v : Value} {X : List ByteArray} (h : w.ownsRow B 9 1 v X.length (strs X)) : ∃ A c, v = .slice A X.length c ∧ ∀ (i : Nat) (hi : i < X.length), ∃ g, A = some ⟨g, 0, none⟩ ∧ g < w.heap.size ∧ w.cell? ⟨g, i, none⟩ = some (.string X[i]) := by
  rcases h.2 with ⟨rfl, h0⟩ | ⟨g, cap, cur, rfl, hB, hg, _⟩
  · exact ⟨none, 0, by rw [h0], fun i hi => by omega⟩
  · refine ⟨_, _, rfl, fun i hi => ⟨g, rfl, (Array.getElem?_eq_some_iff.1 hg).1, ?_⟩⟩
    have := h.cells (g := g) rfl i (.string X[i]) (by rw [List.getElem?_map, List.getElem?_eq_getElem hi]; rfl)
    have hadd : (⟨g, 0, none⟩ : Addr).add i = ⟨g, i, none⟩ := by unfold Addr.add; split <;> simp_all
    rw [hadd] at this
    exact this
set_option maxHeartbeats 1000000 in
/-- list, of the same lists. -/
theorem nList (X : List ByteArray) (hX : X.length ≤ 40) (B1 B2 : Nat) (u1 u2 : Value) (w : World) (h1 : w.ownsRow B1 9 1 u1 X.length (strs X)) (h2 : w.ownsRow B2 9 1 u2 X.length (strs X)) :
    Calls Tryd.prog 6 #[u1, u2] w fun e w' => e = .returned (.bool true) ∧ Below w.heap.size w w' := by
  obtain ⟨A1, c1, rfl, hr1⟩ := own_read h1
  obtain ⟨A2, c2, rfl, hr2⟩ := own_read h2
  have HR1 := Lib.hid hr1
  have HR2 := Lib.hid hr2
  clear h1 h2 hr1 hr2
  go_enter Tryd.func6, Tryd.ntmps6
  go_wp2_with fail
  go_loopw [5] (fun v5 wr => ∃ i : Nat, i ≤ X.length ∧ v5 = .int .i64 i ∧ Below w.heap.size w wr) (fun v5 _ => X.length - (intOf v5).toNat)
  case atStart => exact ⟨0, Nat.zero_le _, rfl, Below.refl _ _⟩
  case round =>
    obtain ⟨i, hi, rfl, hb⟩ := hrel
    have HB := Lib.hid hb
    clear hb
    by_cases hlt : i < X.length
    · obtain ⟨g1, e1, hg1, q1⟩ := HR1.out i hlt
      obtain ⟨g2, e2, hg2, q2⟩ := HR2.out i hlt
      subst e1 e2
      have k1 : wr.cell? ⟨g1, i, none⟩ = some (.string X[i]) := (HB.out.cell (p := ⟨g1, i, none⟩) hg1).trans q1
      have k2 : wr.cell? ⟨g2, i, none⟩ = some (.string X[i]) := (HB.out.cell (p := ⟨g2, i, none⟩) hg2).trans q2
      clear q1 q2
      generalize X[i] = p at *
      go_wp2_with fail
      go_quiet (fail)
      go_wp2_with fail
      go_roundw
      case rel => exact ⟨i + 1, by omega, by go_num, bel_drewN HB.out _⟩
      case measure => simp [intOf]; omega
    · go_wp2_with fail
      go_ret
      exact ⟨rfl, HB.out⟩
theorem own_below' {b n size : Nat} {t : TypeId} {v : Value} {xs : List Value} {w w' : World} (h : w.ownsRow b t size v n xs) (hb : Below w.heap.size w w') : w'.ownsRow b t size v n xs :=
  h.kept (row := none) ⟨hb.os, hb.tape, hb.output, hb.size, fun k hk _ => hb.block k hk⟩ (by cases v.ownBlock <;> simp)
theorem strs_below {K : Nat} {w w' : World} {v : Value} {L : List ByteArray} (h : StrsAt (fun k => k < K) w v L) (hb : Below K w w') : StrsAt (fun k => k < K) w' v L :=
  RowAt.imp h (fun _ h => h) (fun g _ _ _ hg hr => ⟨(hb.cell (p := ⟨g, _, none⟩) hg).trans hr.1, hr.2⟩)
theorem tot_take {L : List ByteArray} {i : Nat} (h : i < L.length) : tot (L.take (i + 1)) = tot (L.take i) + L[i].size := by
  unfold tot
  rw [List.take_add_one, List.getElem?_eq_getElem h, List.map_append, List.sum_append]
  simp only [Option.toList_some, List.map_cons, List.map_nil, List.sum_cons, List.sum_nil, Nat.add_zero]
set_option maxRecDepth 100000 in
set_option maxHeartbeats 2000000 in
/-- ExpandJoins. -/
theorem lJoins (L : List ByteArray) (v0 : Value) (w : World) (h0 : StrsAt (fun k => k < w.heap.size) w v0 L) : Calls Tryd.prog 3 #[v0] w fun e w' => e = .returned (.bool true) ∧ Below w.heap.size w w' := by
  have HS := Lib.hid (fun w => lSane w)
  have H0 := Lib.hid h0
  obtain ⟨A, cap, rfl, hc1, hc2, hA⟩ := h0
  unfold maxLen at hc2
  by_cases hz : 40 < (L.length : Int)
  · clear hA
    go_enter Tryd.func3, Tryd.ntmps3
    go_wp2_with (go_at_call 5; refine (HS.out _).mono ?_; rintro e w2 ⟨rfl, hb2⟩)
    go_ret
    exact ⟨rfl, hb2⟩
  · have hAt : ∀ (i : Nat) (hi : i < L.length), ∃ g off, A = some ⟨g, off, none⟩ ∧ w.cell? ⟨g, off + i, none⟩ = some (.string L[i]) ∧ L[i].size ≤ 140737488351232 := fun i hi => by
      obtain ⟨g, off, e, hg, hx⟩ := hA (by omega)
      have := hx i L[i] (List.getElem?_eq_getElem hi)
      rw [Nat.mul_one] at this
      exact ⟨g, off, e, this.1, this.2⟩
    have HAt := Lib.hid hAt
    clear hA hAt
    go_enter Tryd.func3, Tryd.ntmps3
    go_wp2_with fail
    go_loop [3, 4] (fun v3 v4 => ∃ i : Nat, i ≤ L.length ∧ v4 = .int .i64 i ∧ v3 = .int .i64 (tot (L.take i) : Nat) ∧ tot (L.take i) ≤ 140737488351232 * i) (fun _ v4 => L.length - (intOf v4).toNat)
    case atStart => exact ⟨0, Nat.zero_le _, rfl, rfl, Nat.le_refl _⟩
    case round =>
      obtain ⟨i, hi, rfl, rfl, ht⟩ := hrel
      by_cases hlt : i < L.length
      · obtain ⟨g, off, rfl, hc, hp⟩ := HAt.out i hlt
        have HT := Lib.hid (tot_take hlt)
        have h5 : 140737488351232 * i ≤ 140737488351232 * 40 := Nat.mul_le_mul_left _ (by omega)
        obtain ⟨p, hpe⟩ : ∃ p, p = L[i] := ⟨_, rfl⟩
        rw [← hpe] at hc hp HT
        obtain ⟨m, hm⟩ : ∃ m, m = tot (L.take i) := ⟨_, rfl⟩
        rw [← hm] at ht HT ⊢
        have hb : m + p.size ≤ 6000000000000000 := by omega
        have h6 : m + p.size ≤ 140737488351232 * (i + 1) := by omega
        clear h5 hpe hm ht hp
        go_wp2_with fail
        go_round
        case rel => exact ⟨i + 1, by omega, by go_num, by rw [HT.out]; go_num, by rw [HT.out]; exact h6⟩
        case measure => simp [intOf]; omega
      · obtain rfl : i = L.length := by omega
        rw [List.take_length]
        have ht2 : tot L ≤ 140737488351232 * 40 := by rw [List.take_length] at ht; omega
        clear ht HAt hlt
        by_cases h4 : 4000 < (tot L : Int)
        · go_wp2_with (go_at_call 5; refine (HS.out _).mono ?_; rintro e w2 ⟨rfl, hb2⟩)
          go_ret
          exact ⟨rfl, hb2⟩
        · have HJ := Lib.hid (fun w' (hb : Below w.heap.size w w') => nJoin L (.slice A L.length cap) w' w.heap.size hb.size (by omega) (by omega) (strs_below H0.out hb))
          have HC := Lib.hid (cJoin L (.slice A L.length cap) w (by omega) (by omega) H0.out)
          have HL : Hid (∀ (w' : World) (B1 B2 : Nat) (u1 u2 : Value), w'.ownsRow B1 9 1 u1 (jn ⟨#[]⟩ L).length (strs (jn ⟨#[]⟩ L)) → w'.ownsRow B2 9 1 u2 (refJ L).length (strs (refJ L)) → Calls Tryd.prog 6 #[u1, u2] w' fun e w2 => e = .returned (.bool true) ∧ Below w'.heap.size w' w2) := Lib.hid (fun w' B1 B2 u1 u2 a b => by
            have hjl := jn_len L ⟨#[]⟩
            rw [jn_ref] at a hjl
            exact nList (refJ L) (by omega) B1 B2 u1 u2 w' a b)
          clear ht2
          go_wp2_with (first
            | (go_at_call 7; refine HC.out.mono ?_; rintro e w1 ⟨u1, rfl, ho1, hb1⟩; have HO1 := Lib.hid ho1; have HB1 := Lib.hid hb1; clear ho1 hb1)
            | (go_at_call 8; refine (HJ.out _ HB1.out).mono ?_; rintro e w2 ⟨u2, rfl, ho2, hb2⟩; have HO2 := Lib.hid ho2; have HB2 := Lib.hid hb2; clear ho2 hb2)
            | (go_at_call 6; refine (HL.out _ _ _ _ _ (own_below' HO1.out HB2.out) HO2.out).mono ?_; rintro e w3 ⟨rfl, hb3⟩)
            | (go_at_call 5; refine (HS.out _).mono ?_; rintro e w4 ⟨rfl, hb4⟩))
          go_ret
          exact ⟨rfl, ntrans (ntrans (ntrans HB1.out HB2.out) hb3) hb4⟩
end Go.Proofs.YtbkcnopkibdlbaaDoor
