/- Walk: both books have the same (same). -/
import Derived.Test.YtaamjccffkdlhaaGreatDoorMl
namespace Go.Proofs.YtaamjccffkdlhaaGreatDoor
open Go.RowKit Go.Maps Go.WideMaps Go.Joins

theorem own_below {b n size : Nat} {t : TypeId} {v : Value} {xs : List Value} {w w' : World} (h : w.ownsRow b t size v n xs) (hb : Below w.heap.size w w') : w'.ownsRow b t size v n xs :=
  own_turn (S := fun _ => False) h (Turn.of_below hb) (fun _ _ => id)
theorem own_form2 {w : World} {b n size : Nat} {t : TypeId} {v : Value} {xs : List Value} (h : w.ownsRow b t size v n xs) : ∃ A c, v = .slice A n c ∧ n ≤ c ∧ (0 < n → ∃ g, A = some ⟨g, 0, none⟩) := by
  rcases h.2 with ⟨rfl, e⟩ | ⟨g, cap, cur, rfl, _, _, hc, _⟩
  · exact ⟨none, 0, by rw [e], by omega, fun h => absurd h (by omega)⟩
  · exact ⟨_, cap, rfl, hc, fun _ => ⟨g, rfl⟩⟩
theorem nms_at {w : World} {b g c k : Nat} {L : List Ent} {p : Ent} (h : w.ownsRow b 9 1 (.slice (some ⟨g, 0, none⟩) L.length c) L.length (L.map fun p => .string p.1)) (hk : L[k]? = some p) : w.cell? ⟨g, k, none⟩ = some (.string p.1) := by
  have hlt := (List.getElem?_eq_some_iff.1 hk).1
  rw [h.cellAt k (by omega), List.getElem?_map, hk]
  rfl
theorem name_size {s : ByteArray} (h : nameB s = true) : s.size ≤ maxLen := by
  unfold nameB at h
  simp only [Bool.and_eq_true, decide_eq_true_eq] at h
  have := h.1.2
  unfold maxLen
  omega
set_option maxRecDepth 100000 in
set_option maxHeartbeats 1000000 in
/-- same. -/
theorem lSame (w0 : World) (hN0 : NumAt w0) (hP0 : PowAt w0) (g bm x : Nat) (v : Value) (L : List Ent) (w : World) (h : Both w0 w g bm x v L) :
    Calls Tryz.prog 10 #[.pointer (some ⟨g, 0, none⟩), .pointer (some ⟨x, 0, none⟩)] w fun e w' => e = .returned (.bool true) ∧ Below w.heap.size w w' := by
  have hl := h.bk.len
  have hg := Lib.hid h.bk.good
  have H1 := Lib.hid (cNames g bm L w h.bk)
  have H2 := Lib.hid (fun w1 (hb : Below w.heap.size w w1) => nNames w0.heap.size x v L hl w1 (h.at_ hb).rf)
  have HA := Lib.hid (fun s hs w1 (hb : Below w.heap.size w w1) => lAsked s hs w0 hN0 hP0 g bm x v L w1 (h.at_ hb))
  clear h hN0 hP0
  go_enter Tryz.func10, Tryz.ntmps10
  go_wp2_with (first
    | (go_at_call 23; refine H1.out.mono ?_; rintro e w1 ⟨u1, rfl, ho1, hb1⟩; have HO1 := Lib.hid ho1; clear ho1)
    | (go_at_call 33; refine (H2.out _ hb1).mono ?_; rintro e w2 ⟨u2, rfl, ho2, hb2⟩
       have HO2 := Lib.hid ho2
       have HP1 := Lib.hid (own_below HO1.out hb2)
       obtain ⟨A1, c1, rfl, hc1, hA1⟩ := own_form2 HO1.out
       obtain ⟨A2, c2, rfl, hc2, hA2⟩ := own_form2 HO2.out
       have HA1 := Lib.hid hA1
       have HA2 := Lib.hid hA2
       have hB2 := Lib.hid (ntrans hb1 hb2)
       clear ho2 hA1 hA2))
  go_loopw [7] (fun v7 wr => ∃ k : Nat, k ≤ L.length ∧ v7 = .int .i64 k ∧ Below w2.heap.size w2 wr) (fun v7 _ => L.length - (intOf v7).toNat)
  case atStart => exact ⟨0, Nat.zero_le _, rfl, Below.refl _ _⟩
  case round =>
    obtain ⟨k, hk, rfl, hb⟩ := hrel
    by_cases hlt : k < L.length
    · obtain ⟨g1, rfl⟩ := HA1.out (by omega)
      obtain ⟨g2, rfl⟩ := HA2.out (by omega)
      have hp := List.getElem?_eq_getElem hlt
      have hgp := hg.out L[k] (List.getElem_mem hlt)
      generalize L[k] = p at hp hgp
      have d1 := nms_at (own_below HP1.out hb) hp
      have d2 := nms_at (own_below HO2.out hb) hp
      have hq1 : (p.1.toList == p.1.toList) = true := beq_self_eq_true _
      have hsz : p.1.size ≤ maxLen := name_size hgp.1
      have HQ := Lib.hid (HA.out p.1 hsz)
      have hB3 := Lib.hid (ntrans hB2.out hb)
      clear hp hgp
      go_wp2
      go_still_tail 16, (by kernel_rfl)
      change wpList _ _ _ _ _ wr.drew
      have hbd : Below wr.heap.size wr wr.drew := (Below.refl wr.heap.size wr).drew
      have hBd := Lib.hid (ntrans hB3.out hbd)
      have hbr := Lib.hid (hb.trans (hbd.mono hb.size))
      go_wp2_with (go_at_call 32; refine (HQ.out _ hBd.out).mono ?_; rintro e w4 ⟨rfl, hb4⟩)
      go_round
      case rel => exact ⟨k + 1, by omega, by go_num, hbr.out.trans (hb4.mono hbr.out.size)⟩
      case measure => simp [intOf]; omega
    · have e : k = L.length := by omega
      subst e
      go_wp2
      go_ret
      exact ⟨rfl, ntrans hB2.out hb⟩
end Go.Proofs.YtaamjccffkdlhaaGreatDoor
