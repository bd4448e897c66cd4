/- Walk: the statement on parts that are appended. -/
import Derived.Test.YtbedddgfijpbcaaAa
import Derived.Test.YtbedddgfijpbcaaQu
namespace Go.Proofs.Ytbedddgfijpbcaa
open Go.RowKit Go.Maps Go.WideMaps

abbrev StrsAt (K : Nat → Prop) := RowAt 1 strR K
set_option maxRecDepth 100000 in
set_option maxHeartbeats 2000000 in
/-- StoreAppends. -/
theorem lAppends (v0 v1 : Value) (cut : Int) (ps : List ByteArray) (ls : List Ln) (w : World) (h0 : StrsAt (fun k => k < w.heap.size) w v0 ps) (h1 : LnsAt (fun k => k < w.heap.size) w v1 ls) (hl1 : ls.length ≤ 10000000000000) :
    Calls Try.prog 3 #[v0, v1, .int .i64 cut] w fun e w' => e = .returned (.bool true) ∧ Below w.heap.size w w' := by
  obtain ⟨A0, cap0, rfl, a1, a2, a3⟩ := h0
  have HA := Lib.hid a3
  have HS := Lib.hid (fun w => lSane w)
  have HT := Lib.hid (fun (s : ByteArray) (hs : s.size ≤ maxLen) (w : World) => nText s hs w)
  have HLn := Lib.hid h1
  obtain ⟨A1, cap1, rfl, b1, b2, _⟩ := id h1
  clear a3 h1
  unfold maxLen at a2 b2
  obtain ⟨n5, hn5⟩ : ∃ n, n = min ps.length 50 := ⟨_, rfl⟩
  go_enter Try.func3, Try.ntmps3
  go_wp2_with fail
  go_loop [7, 8] (fun v7 v8 => ∃ i : Nat, i ≤ n5 ∧ v8 = .int .i64 i ∧ v7 = .string (catL (ps.take i)) ∧ ∀ j, j ≤ i → textB (catL (ps.take j)) = true) (fun v7 v8 => 50 - (intOf v8).toNat)
  case atStart => exact ⟨0, Nat.zero_le _, rfl, rfl, fun j hj => by
    have e : j = 0 := by omega
    rw [e]; exact tE⟩
  case round =>
    obtain ⟨i, hi, rfl, rfl, ht⟩ := hrel
    have HTx := Lib.hid ht
    have htz := text_size (ht i (Nat.le_refl _))
    clear ht
    by_cases hlt : i < n5
    · have hil : i < ps.length := by omega
      have hi50 : i < 50 := by omega
      obtain ⟨g, off, rfl, _, hr⟩ := HA.out (by omega)
      have hx : ps[i]? = some ps[i] := List.getElem?_eq_getElem hil
      obtain ⟨c0, hz⟩ := hr i _ hx
      rw [Nat.mul_one] at c0
      have hct := catL_take hx
      have HCt := Lib.hid hct
      have hsum : (catL (ps.take (i + 1))).size = (catL (ps.take i)).size + ps[i].size := by rw [hct, size_len, app_data, List.length_append]; rfl
      clear hr hx hct
      generalize ps[i] = t at *
      have ka := fun (w : World) => run_string_add_sum (P := Try.prog) w (catL (ps.take i)) t (by omega)
      rw [← HCt.out] at ka
      have HTi := Lib.hid (HT.out (catL (ps.take (i + 1))) (by unfold maxLen; omega))
      cases htn : textB (catL (ps.take (i + 1)))
      · rw [htn] at HTi
        clear htn
        go_wp2_with (first
          | (go_at_call 8; refine (HTi.out _).mono ?_; rintro e w1 ⟨rfl, rfl⟩)
          | (go_at_call 9; refine (HS.out _).mono ?_; rintro e w1 ⟨rfl, hb⟩))
        go_ret
        exact ⟨rfl, hb⟩
      · rw [htn] at HTi
        have HTn := Lib.hid htn
        clear htn
        go_wp2_with (go_at_call 8; refine (HTi.out _).mono ?_; rintro e w1 ⟨rfl, rfl⟩)
        go_round
        case rel => exact ⟨i + 1, by omega, by go_num, rfl, fun j hj => by
          by_cases e : j = i + 1
          · subst e; exact HTn.out
          · exact HTx.out j (by omega)⟩
        case measure => simp [intOf]; omega
    · obtain rfl : i = n5 := by omega
      have hor : i < ps.length ∧ i = 50 ∨ ¬ i < ps.length := by omega
      have hwt := HTx.out i (Nat.le_refl _)
      obtain ⟨x, hxe⟩ : ∃ x, x = catL (ps.take i) := ⟨_, rfl⟩
      rw [← hxe] at hwt htz ⊢
      have HXe := Lib.hid hxe
      have H1 := Lib.hid (sNew (b := w.heap.size) (w0 := w) (w := w) E0 (Below.refl _ _) (Nat.le_refl _))
      have H2 := Lib.hid (fun (g bm : Nat) (w1 : World) (h : St w.heap.size w w1 g bm [] E0) => aDef1 ⟨#[]⟩ (by decide) tE h)
      have H3 := Lib.hid (fun (g bm e : Nat) (w1 : World) (h : St w.heap.size w w1 g bm [(nA, e)] (upd E0 e (.str ⟨#[]⟩))) => aDef2 ⟨#[]⟩ x (by unfold maxLen; omega) hwt h)
      have H4 := Lib.hid (fun (g bm : Nat) (w1 : World) (h : ASt w.heap.size w w1 g bm x x) => aTxtA x x h)
      have H5 := Lib.hid (fun (g bm : Nat) (w1 : World) (h : ASt w.heap.size w w1 g bm x x) => aTxtB x x h)
      have hxx : (x.toList != x.toList) = false := by simp
      clear hxe hwt
      unfold nA at H2 H4
      rcases hor with hor | hor
      all_goals
        go_wp2_with (first
          | (go_at_call 10; refine H1.out.mono ?_; rintro e w1 ⟨g, bm, rfl, hk1⟩; have K1 := Lib.hid hk1; clear hk1)
          | (go_at_call 11; with_reducible refine (H2.out _ _ _ K1.out).mono ?_; rintro e w2 ⟨rfl, e, hk2⟩; have K2 := Lib.hid hk2; clear hk2)
          | (go_at_call 11; with_reducible refine (H3.out _ _ _ _ K2.out).mono ?_; rintro e w3 ⟨rfl, hk3⟩; have K3 := Lib.hid hk3; clear hk3))
        go_loopw [10] (fun v10 wr => ∃ j : Nat, j ≤ i ∧ v10 = .int .i64 j ∧ ASt w.heap.size w wr g bm (catL (ps.take j)) x) (fun v10 _ => 50 - (intOf v10).toNat)
        case atStart => exact ⟨0, Nat.zero_le _, rfl, K3.out⟩
        case round =>
          clear K1 K2 K3
          obtain ⟨j, hj, rfl, hk⟩ := hrel
          have KK := Lib.hid hk
          have HBo := Lib.hid hk.out
          clear hk
          by_cases hjl : j < i
          · have hjp : j < ps.length := by omega
            have hj50 : j < 50 := by omega
            obtain ⟨p, off, rfl, hKp, hr⟩ := HA.out (by omega)
            have hx : ps[j]? = some ps[j] := List.getElem?_eq_getElem hjp
            obtain ⟨c0, hz⟩ := hr j _ hx
            rw [Nat.mul_one] at c0
            have c0' := (HBo.out.cell (p := ⟨p, off + j, none⟩) hKp).trans c0
            have hct := catL_take hx
            have htj := HTx.out (j + 1) (by omega)
            have HAp : Hid (∀ w1, ASt w.heap.size w w1 g bm (catL (ps.take j)) x → Calls Try.prog 12 #[.pointer (some ⟨g, 0, none⟩), .string ⟨#[97]⟩, .string ps[j]] w1 fun e w' => e = .returned (.int .i64 0) ∧ ASt w.heap.size w w' g bm (catL (ps.take (j + 1))) x) := Lib.hid (fun w1 h => by
              rw [hct] at htj ⊢
              exact aApp ps[j] _ x (by unfold maxLen; omega) (text_right htj) htj h)
            clear hr hx hct c0 htj
            generalize ps[j] = t at *
            go_wp2_with (go_at_call 12; refine (HAp.out _ KK.out).mono ?_; rintro e w4 ⟨rfl, hk4⟩)
            go_roundw
            case rel => exact ⟨j + 1, by omega, by go_num, hk4⟩
            case measure => simp [intOf]; omega
          · obtain rfl : j = i := by omega
            rw [← HXe.out] at KK
            have HL1 := Lib.hid (HLn.out.stay (K' := fun k => k < w.heap.size) (Kept.of_below HBo.out (fun _ h => h)) (fun _ h => h))
            have hszr := HBo.out.size
            have HAre := Lib.hid (nLns _ _ _ _ HL1.out (fun k hk => Nat.lt_of_lt_of_le hk hszr))
            by_cases h300 : ls.length ≤ 300
            · cases hli : lnsB ls
              · rw [hli] at HAre
                clear hli
                go_wp2_with (first
                  | (go_at_call 13; with_reducible refine (H4.out _ _ _ KK.out).mono ?_; rintro e w5 ⟨rfl, rfl⟩)
                  | (go_at_call 13; with_reducible refine (H5.out _ _ _ KK.out).mono ?_; rintro e w5 ⟨rfl, rfl⟩)
                  | (go_at_call 14; refine HAre.out.mono ?_; rintro e w6 ⟨rfl, hb6⟩)
                  | (go_at_call 9; refine (HS.out _).mono ?_; rintro e w7 ⟨rfl, hb7⟩))
                go_ret
                exact ⟨rfl, HBo.out.trans ((ntrans hb6 hb7).mono hszr)⟩
              · rw [hli] at HAre
                obtain ⟨k, hk, hy⟩ := u64_mod cut (ls.length + 1) (by omega) (by omega)
                have hwu : IntKind.u64.wrap ((ls.length : Int) + 1) = (ls.length : Int) + 1 := by show ((ls.length : Int) + 1) % 18446744073709551616 = _; omega
                rw [show ((ls.length + 1 : Nat) : Int) = (ls.length : Int) + 1 by omega] at hy
                have hkl : k ≤ ls.length := by omega
                have HM : Hid (∀ (w6 : World), Below wr.heap.size wr w6 → Calls Try.prog 15 #[.pointer (some ⟨g, 0, none⟩), .string ⟨#[99]⟩, .slice A1 k cap1] w6 fun e w' => e = .returned (.int .i64 0) ∧ CSt w.heap.size w w' g bm (ls.take k)) := Lib.hid (fun w6 hb6 =>
                  aMac x x (fun k => k < w.heap.size) _ (ls.take k) (lnsB_take hli k) (by rw [List.length_take]; omega) (KK.out.below hb6) ((HL1.out.stay (Kept.of_below (hb6.mono hszr) (fun _ h => h)) (fun _ h => h)).take k hkl) (fun k hk => Nat.lt_of_lt_of_le hk (Nat.le_trans hszr hb6.size)))
                have HAd : Hid (∀ (w7 : World) (A' : Option Addr), (cap1 ≠ k → A' = A1.map fun x => x.add (k * 5)) → CSt w.heap.size w w7 g bm (ls.take k) → Calls Try.prog 16 #[.pointer (some ⟨g, 0, none⟩), .string ⟨#[99]⟩, .slice A' (ls.length - k) (cap1 - k)] w7 fun e w' => e = .returned (.int .i64 0) ∧ CSt w.heap.size w w' g bm ls) := Lib.hid (fun w7 A' hA' hc => by
                  have := aAdd (ls.take k) (fun k => k < w.heap.size) (.slice A' (ls.length - k) (cap1 - k)) (ls.drop k) (lnsB_drop hli k) (by rw [List.length_take, List.length_drop]; omega) hc ((HLn.out.stay (Kept.of_below hc.out (fun _ h => h)) (fun _ h => h)).drop k hkl hA') (fun k hk => Nat.lt_of_lt_of_le hk hc.out.size)
                  rwa [List.take_append_drop] at this)
                have HLi := Lib.hid (fun (w8 : World) (hc : CSt w.heap.size w w8 g bm ls) => aLines ls hc)
                unfold nC at HLi
                have HSm : Hid (∀ (w8 w9 : World) (v : Value), CSt w.heap.size w w9 g bm ls → LnsAt (fun k => w8.heap.size ≤ k ∧ k < w9.heap.size) w9 v ls → Calls Try.prog 18 #[v, .slice A1 ls.length cap1] w9 fun e w' => e = .returned (.bool true) ∧ Below w9.heap.size w9 w') := Lib.hid (fun w8 w9 v hc hv =>
                  lSame _ (fun k => k < w.heap.size) v _ ls w9 hv (HLn.out.stay (Kept.of_below hc.out (fun _ h => h)) (fun _ h => h)) (fun k hk => hk.2) (fun k hk => Nat.lt_of_lt_of_le hk hc.out.size))
                clear hli
                have hkc : cap1 = k ∨ cap1 ≠ k := by omega
                rcases hkc with hkc | hkc
                · subst hkc
                  have HAd2 : Hid (∀ (w7 : World), CSt w.heap.size w w7 g bm (ls.take cap1) → Calls Try.prog 16 #[.pointer (some ⟨g, 0, none⟩), .string ⟨#[99]⟩, .slice A1 0 0] w7 fun e w' => e = .returned (.int .i64 0) ∧ CSt w.heap.size w w' g bm ls) := Lib.hid (fun w7 hc => by
                    have := HAd.out w7 A1 (fun h => absurd rfl h) hc
                    rwa [Nat.sub_self, show ls.length - cap1 = 0 by omega] at this)
                  go_wp2_with (first
                    | (go_at_call 13; with_reducible refine (H4.out _ _ _ KK.out).mono ?_; rintro e w5 ⟨rfl, rfl⟩)
                    | (go_at_call 13; with_reducible refine (H5.out _ _ _ KK.out).mono ?_; rintro e w5 ⟨rfl, rfl⟩)
                    | (go_at_call 14; refine HAre.out.mono ?_; rintro e w6 ⟨rfl, hb6⟩)
                    | (go_at_call 15; refine (HM.out _ hb6).mono ?_; rintro e w7 ⟨rfl, hk7⟩; have K7 := Lib.hid hk7; clear hk7)
                    | (go_at_call 16; refine (HAd2.out _ K7.out).mono ?_; rintro e w8 ⟨rfl, hk8⟩; have K8 := Lib.hid hk8; clear hk8)
                    | (go_at_call 17; refine (HLi.out _ K8.out).mono ?_; rintro e w9 ⟨A9, n9, c9, rfl, hl9, hk9⟩; have K9 := Lib.hid hk9; have L9 := Lib.hid hl9; clear hk9 hl9)
                    | (go_at_call 18; refine (HSm.out _ _ _ K9.out L9.out).mono ?_; rintro e w10 ⟨rfl, hb10⟩)
                    | (go_at_call 9; refine (HS.out _).mono ?_; rintro e w11 ⟨rfl, hb11⟩))
                  go_ret
                  exact ⟨rfl, K9.out.out.trans ((ntrans hb10 hb11).mono K9.out.out.size)⟩
                · have HAd2 := Lib.hid (fun (w7 : World) hc => HAd.out w7 _ (fun _ => rfl) hc)
                  go_wp2_with (first
                    | (go_at_call 13; with_reducible refine (H4.out _ _ _ KK.out).mono ?_; rintro e w5 ⟨rfl, rfl⟩)
                    | (go_at_call 13; with_reducible refine (H5.out _ _ _ KK.out).mono ?_; rintro e w5 ⟨rfl, rfl⟩)
                    | (go_at_call 14; refine HAre.out.mono ?_; rintro e w6 ⟨rfl, hb6⟩)
                    | (go_at_call 15; refine (HM.out _ hb6).mono ?_; rintro e w7 ⟨rfl, hk7⟩; have K7 := Lib.hid hk7; clear hk7)
                    | (go_at_call 16; refine (HAd2.out _ K7.out).mono ?_; rintro e w8 ⟨rfl, hk8⟩; have K8 := Lib.hid hk8; clear hk8)
                    | (go_at_call 17; refine (HLi.out _ K8.out).mono ?_; rintro e w9 ⟨A9, n9, c9, rfl, hl9, hk9⟩; have K9 := Lib.hid hk9; have L9 := Lib.hid hl9; clear hk9 hl9)
                    | (go_at_call 18; refine (HSm.out _ _ _ K9.out L9.out).mono ?_; rintro e w10 ⟨rfl, hb10⟩)
                    | (go_at_call 9; refine (HS.out _).mono ?_; rintro e w11 ⟨rfl, hb11⟩))
                  go_ret
                  exact ⟨rfl, K9.out.out.trans ((ntrans hb10 hb11).mono K9.out.out.size)⟩
            · go_wp2_with (first
                | (go_at_call 13; with_reducible refine (H4.out _ _ _ KK.out).mono ?_; rintro e w5 ⟨rfl, rfl⟩)
                | (go_at_call 13; with_reducible refine (H5.out _ _ _ KK.out).mono ?_; rintro e w5 ⟨rfl, rfl⟩)
                | (go_at_call 9; refine (HS.out _).mono ?_; rintro e w7 ⟨rfl, hb7⟩))
              go_ret
              exact ⟨rfl, HBo.out.trans (hb7.mono hszr)⟩
end Go.Proofs.Ytbedddgfijpbcaa
