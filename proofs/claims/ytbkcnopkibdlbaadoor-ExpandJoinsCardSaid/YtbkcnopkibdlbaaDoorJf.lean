/- Walk: the document's Join; lists are compared. -/
import Derived.Test.YtbkcnopkibdlbaaDoorJe
namespace Go.Proofs.YtbkcnopkibdlbaaDoor
open Go.RowKit Go.Shelf

theorem own_drewN {B n : Nat} {t : TypeId} {v : Value} {xs : List Value} {w : World} (h : w.ownsRow B t 1 v n xs) (q : Nat) : (w.drewN q).ownsRow B t 1 v n xs := h
theorem bel_drewN {B : Nat} {w w' : World} (h : Below B w w') (q : Nat) : Below B w (w'.drewN q) := ⟨h.os, h.tape, h.output, h.size, h.block⟩
theorem refJ_cons (p : ByteArray) (l : List ByteArray) : refJ (p :: l) = rj p l := rfl
theorem rj_end {s : ByteArray} {l : List ByteArray} (h : l = [] ∨ oddB s = false) : rj s l = s :: refJ l := by
  cases l with
  | nil => rfl
  | cons q r =>
    rcases h with h | h
    · cases h
    · rw [rj, h]; rfl
set_option maxRecDepth 100000 in
set_option maxHeartbeats 4000000 in
/-- Join, the document's. -/
theorem nJoin (L : List ByteArray) (v0 : Value) (w : World) (K : Nat) (hK : K ≤ w.heap.size) (hL : L.length ≤ 40) (hT : tot L ≤ 4000) (h0 : StrsAt (fun k => k < K) w v0 L) :
    Calls Tryd.prog 8 #[v0] w fun e w' => ∃ u, e = .returned u ∧ w'.ownsRow w.heap.size 9 1 u (refJ L).length (strs (refJ L)) ∧ Below w.heap.size w w' := by
  obtain ⟨A, cap, rfl, hc1, hc2, hA⟩ := h0
  obtain ⟨i0, hi0, hz0, hz1, hz2⟩ := info_parts infoStr
  have hAt : ∀ (i : Nat) (hi : i < L.length), ∃ g off, A = some ⟨g, off, none⟩ ∧ g < w.heap.size ∧ w.cell? ⟨g, off + i, none⟩ = some (.string L[i]) := fun i hi => by
    obtain ⟨g, off, e, hg, hx⟩ := hA (by omega)
    have := (hx i L[i] (List.getElem?_eq_getElem hi)).1
    rw [Nat.mul_one] at this
    exact ⟨g, off, e, by omega, this⟩
  have HAt := Lib.hid hAt
  have HT := Lib.hid hT
  clear hA hAt hT hK
  go_enter Tryd.func8, Tryd.ntmps8
  go_wp2_with fail
  go_loopw [3, 4] (fun v3 v4 wr => ∃ (i : Nat) (Js : List ByteArray), i ≤ L.length ∧ v4 = .int .i64 i ∧ wr.ownsRow w.heap.size 9 1 v3 Js.length (strs Js) ∧ Below w.heap.size w wr ∧ Js ++ refJ (L.drop i) = refJ L ∧ tot (L.drop i) ≤ 4000 ∧ Js.length ≤ i) (fun _ v4 _ => L.length - (intOf v4).toNat)
  case atStart => exact ⟨0, [], Nat.zero_le _, rfl, World.ownsRow_nil _ _ _ _, Below.refl _ _, rfl, by rw [List.drop_zero]; exact HT.out, Nat.zero_le _⟩
  case round =>
    obtain ⟨i, Js, hi, rfl, ho, hb, hj, ht, hjl⟩ := hrel
    have HO := Lib.hid ho
    have HB := Lib.hid hb
    have HJ := Lib.hid hj
    clear hb hj HT ho
    by_cases hlt : i < L.length
    · obtain ⟨g, off, hAe, hg, hc⟩ := HAt.out i hlt
      subst hAe
      have hcr : wr.cell? ⟨g, off + i, none⟩ = some (.string L[i]) := (HB.out.cell (p := ⟨g, off + i, none⟩) hg).trans hc
      have hd := drop_at (List.getElem?_eq_getElem hlt)
      rw [hd, tot_cons] at ht
      have HD := Lib.hid hd
      clear hd hc
      obtain ⟨p, hp⟩ : ∃ p, p = L[i] := ⟨_, rfl⟩
      rw [← hp] at hcr ht HD
      have HR : Hid (∀ (k : Nat) (s : ByteArray), rj s (L.drop (k + 1)) = rj p (L.drop (i + 1)) → (L.drop (k + 1) = [] ∨ oddB s = false) → (Js ++ [s]) ++ refJ (L.drop (k + 1)) = refJ L) := Lib.hid (fun k s h1 h2 => by
        rw [← HJ.out, HD.out, refJ_cons, ← h1, rj_end h2]
        simp)
      clear HD hp HJ
      generalize wr = wc at *
      go_wp2_with fail
      clear hcr
      go_loopw [4, 5] (fun v4 v5 wr => ∃ (k : Nat) (s : ByteArray), i ≤ k ∧ k < L.length ∧ v4 = .int .i64 k ∧ v5 = .string s ∧ rj s (L.drop (k + 1)) = rj p (L.drop (i + 1)) ∧ s.size + tot (L.drop (k + 1)) ≤ 4000 ∧ wr.ownsRow w.heap.size 9 1 _ Js.length (strs Js) ∧ Below w.heap.size w wr) (fun v4 _ _ => L.length - (intOf v4).toNat)
      case atStart => exact ⟨i, p, Nat.le_refl _, hlt, rfl, rfl, rfl, ht, HO.out, HB.out⟩
      case round =>
        obtain ⟨k, s, hik, hkl, rfl, rfl, hrj, hts, ho, hb⟩ := hrel
        have HO := Lib.hid ho
        have HB := Lib.hid hb
        have HV := Lib.hid hrj
        have HG := Lib.hid (fun w => nOdd s (by omega) w)
        clear ho hb hrj ht
        by_cases hin : oddB s = true ∧ k + 1 < L.length
        · have hp1 := odd_pos hin.1
          have hk2 := hin.2
          rw [hin.1] at HG
          obtain ⟨g', off', he', hg', hc'⟩ := HAt.out (k + 1) hk2
          injection he' with he'
          injection he' with e1 e2 _
          subst e1 e2
          have hcr : wr.cell? ⟨g, off + (k + 1), none⟩ = some (.string L[k + 1]) := (HB.out.cell (p := ⟨g, off + (k + 1), none⟩) hg').trans hc'
          have hd := drop_at (List.getElem?_eq_getElem hk2)
          obtain ⟨q, hq⟩ : ∃ q, q = L[k + 1] := ⟨_, rfl⟩
          rw [← hq] at hcr hd
          have HV2 : Hid (rj (s.extract 0 (s.size - 1) ++ q) (L.drop (k + 1 + 1)) = rj p (L.drop (i + 1))) := Lib.hid (by
            rw [← HV.out, hd, rj, if_pos hin.1])
          rw [hd, tot_cons] at hts
          have hez : (s.extract 0 (s.size - 1)).size = s.size - 1 := by rw [extract_size _ _ _ (by omega)]; omega
          have HZ := Lib.hid hez
          have e1 : (s.size : Int) - 1 = ((s.size - 1 : Nat) : Int) := by omega
          have ka := fun (w : World) => run_string_add_sum (P := Tryd.prog) w (s.extract 0 (s.size - 1)) q (by rw [HZ.out]; omega)
          clear hin hc' hd hq hez
          go_wp2_with (go_at_call 18; refine (HG.out _).mono ?_; rintro e w1 ⟨rfl, rfl⟩)
          go_quiet (fail)
          go_wp2_with fail
          go_roundw
          case rel => exact ⟨k + 1, _, by omega, hk2, by go_num, rfl, HV2.out, by
            have := HZ.out
            rw [size_len, app_data, List.length_append, ← size_len, ← size_len]
            omega, own_drewN HO.out _, bel_drewN HB.out _⟩
          case measure => simp [intOf]; omega
        · have HR2 := Lib.hid (HR.out k s HV.out (by
            by_cases h : k + 1 < L.length
            · refine .inr ?_
              cases h2 : oddB s
              · rfl
              · exact absurd ⟨h2, h⟩ hin
            · exact .inl (List.drop_eq_nil_iff.2 (by omega))))
          cases ho : oddB s with
          | true =>
            have hk2 : ¬ k + 1 < L.length := fun h => hin ⟨ho, h⟩
            rw [ho] at HG
            clear hin ho
            go_wp2_with (first
              | (go_at_call 18; refine (HG.out _).mono ?_; rintro e w1 ⟨rfl, rfl⟩)
              | (at_builtin
                 refine wpList_append_own _ rfl (.tmp 37) (.tmp 39) 22 rfl w.heap.size 9 i0 (.string ⟨#[]⟩) 1 16 Tryd.underlying22 hi0 hz0 hz1 hz2 rfl (by decide) _ Js.length _ rfl (HO.out.alloc _) ⟨wr.heap.size, 0, none⟩ 1 1 [.string s] rfl rfl (new_one' wr _ _) (str_one _) (by unfold maxLen; omega) (by omega) (by have := HB.out.size; simp; omega) ?_
                 intro v4 w3 ho3 hg3 _
                 have HB3 := Lib.hid ((HB.out.alloc HB.out.size (.cells #[.string s] 9)).grown hg3 (by have := HB.out.size; simp; omega) (fun g hg => ((HO.out.alloc (.cells #[.string s] 9)).lt g hg).1))
                 have HO3 := Lib.hid ho3
                 clear ho3 hg3))
            go_roundw
            case rel => exact ⟨k + 1, Js ++ [s], by omega, by go_num, by simpa using HO3.out, HB3.out, HR2.out, by omega, by simp; omega⟩
            case measure => simp [intOf]; omega
          | false =>
            rw [ho] at HG
            clear hin ho
            go_wp2_with (first
              | (go_at_call 18; refine (HG.out _).mono ?_; rintro e w1 ⟨rfl, rfl⟩)
              | (at_builtin
                 refine wpList_append_own _ rfl (.tmp 37) (.tmp 39) 22 rfl w.heap.size 9 i0 (.string ⟨#[]⟩) 1 16 Tryd.underlying22 hi0 hz0 hz1 hz2 rfl (by decide) _ Js.length _ rfl (HO.out.alloc _) ⟨wr.heap.size, 0, none⟩ 1 1 [.string s] rfl rfl (new_one' wr _ _) (str_one _) (by unfold maxLen; omega) (by omega) (by have := HB.out.size; simp; omega) ?_
                 intro v4 w3 ho3 hg3 _
                 have HB3 := Lib.hid ((HB.out.alloc HB.out.size (.cells #[.string s] 9)).grown hg3 (by have := HB.out.size; simp; omega) (fun g hg => ((HO.out.alloc (.cells #[.string s] 9)).lt g hg).1))
                 have HO3 := Lib.hid ho3
                 clear ho3 hg3))
            go_roundw
            case rel => exact ⟨k + 1, Js ++ [s], by omega, by go_num, by simpa using HO3.out, HB3.out, HR2.out, by omega, by simp; omega⟩
            case measure => simp [intOf]; omega
    · obtain rfl : i = L.length := by omega
      have he : Js = refJ L := by
        have := HJ.out
        rw [List.drop_length, refJ, List.append_nil] at this
        exact this
      have HE := Lib.hid he
      clear he
      go_wp2_with fail
      go_ret
      exact ⟨_, rfl, by rw [← HE.out]; exact HO.out, HB.out⟩
end Go.Proofs.YtbkcnopkibdlbaaDoor
