/- Walk: the statement on aliases. -/
import Derived.Test.YtbedddgfijpbcaaBc
namespace Go.Proofs.Ytbedddgfijpbcaa
open Go.RowKit Go.Maps Go.WideMaps

theorem text_ok : textB ⟨#[116, 101, 120, 116]⟩ = true := by decide +kernel
theorem ab0 : (⟨#[97, 98]⟩ : ByteArray).extract 0 1 = ⟨#[97]⟩ := by decide +kernel
theorem ab1 : (⟨#[97, 98]⟩ : ByteArray).extract 1 2 = ⟨#[98]⟩ := by decide +kernel
set_option maxRecDepth 100000 in
set_option maxHeartbeats 2000000 in
/-- StoreAliases. -/
theorem lAliases (v : Value) (ds : List Dd) (w : World) (h : DdsAt (fun k => k < w.heap.size) w v ds) (hdl : ds.length ≤ 10000000000000) :
    Calls Try.prog 4 #[v] w fun e w' => e = .returned (.bool true) ∧ Below w.heap.size w w' := by
  have HBig := Lib.hid (lBig v ds w h)
  have HS := Lib.hid (fun w => lSane w)
  obtain ⟨A, cap, rfl, a1, a2, a3⟩ := h
  have HA := Lib.hid a3
  clear a3
  unfold maxLen at a2
  go_enter Try.func4, Try.ntmps4
  have H1 := Lib.hid (fun (w1 : World) (hb : Below w.heap.size w w1) => sNew (b := w.heap.size) (w0 := w) (w := w1) E0 hb hb.size)
  have H2 := Lib.hid (fun (g bm : Nat) (w1 : World) (h : St w.heap.size w w1 g bm [] E0) => aDef1 ⟨#[116, 101, 120, 116]⟩ (by decide) text_ok h)
  have H3 := Lib.hid (fun (g bm e : Nat) (w1 : World) (h : St w.heap.size w w1 g bm [(nA, e)] (upd E0 e (.str ⟨#[116, 101, 120, 116]⟩))) => alAlias h)
  unfold nA at H2 H3
  go_wp2_with (first
    | (go_at_call 19; refine HBig.out.mono ?_; rintro e w1 ⟨⟨b, rfl⟩, hb1⟩)
    | (go_at_call 9; refine (HS.out _).mono ?_; rintro e w2 ⟨rfl, hb2⟩)
    | (go_at_call 10; refine (H1.out _ hb1).mono ?_; rintro e w2 ⟨g, bm, rfl, hk1⟩; have K1 := Lib.hid hk1; clear hk1)
    | (go_at_call 11; refine (H2.out _ _ _ K1.out).mono ?_; rintro e w3 ⟨rfl, e, hk2⟩; have K2 := Lib.hid hk2; clear hk2)
    | (go_at_call 20; refine (H3.out _ _ _ _ K2.out).mono ?_; rintro e w4 ⟨rfl, hk3⟩; have K3 := Lib.hid hk3; clear hk3))
  · go_ret
    exact ⟨rfl, ntrans hb1 hb2⟩
  · clear HBig H1 H2 H3 K1 K2
    go_loopw [4] (fun v4 wr => ∃ i : Nat, i ≤ ds.length ∧ v4 = .int .i64 i ∧ AL w.heap.size w wr g bm) (fun v4 _ => ds.length - (intOf v4).toNat)
    case atStart => exact ⟨0, Nat.zero_le _, rfl, K3.out⟩
    case round =>
      clear K3
      obtain ⟨i, hi, rfl, hk⟩ := hrel
      have HB := Lib.hid hk.out
      have KK := Lib.hid hk
      clear hk
      by_cases hlt : i < ds.length
      · obtain ⟨p, off, rfl, hKp, hr⟩ := HA.out (by omega)
        have hx : ds[i]? = some ds[i] := List.getElem?_eq_getElem hlt
        have q := ddR.stay (K := fun k => k < w.heap.size) (K' := fun k => k < w.heap.size) hKp (hr i _ hx) (Kept.of_below HB.out (fun _ h => h)) (fun _ h => h)
        obtain ⟨vl, c4, hls⟩ := q.c4
        obtain ⟨Al, nl, cl, rfl⟩ : ∃ A n c, vl = .slice A n c := by
          obtain ⟨A, c, e, _⟩ := hls
          exact ⟨A, _, c, e⟩
        have c0 := q.c0
        have c1 := q.c1
        have c2 := q.c2
        have c3 := q.c3
        have c5 := q.c5
        have c6 := q.c6
        have HQ := Lib.hid (⟨q.z2, q.z3, q.z4, q.wa, q.wb⟩ : ds[i].other.size ≤ 140737488351232 ∧ ds[i].text.size ≤ 140737488351232 ∧ ds[i].lines.length ≤ 10000000000000 ∧ (-9223372036854775808 ≤ ds[i].a ∧ ds[i].a ≤ 9223372036854775807) ∧ (-9223372036854775808 ≤ ds[i].b ∧ ds[i].b ≤ 9223372036854775807))
        have HLs := Lib.hid hls
        clear q hr hx hls
        generalize ds[i] = d at *
        have hszr := HB.out.size
        by_cases hw : 0 ≤ d.what ∧ d.what ≤ 3 ∨ 7 ≤ d.what ∧ d.what ≤ 8
        · have HDo : Hid (∀ (nm : ByteArray) (w5 : World), nm = nA ∨ nm = nB → Below wr.heap.size wr w5 → Calls Try.prog 21 #[.pointer (some ⟨g, 0, none⟩), .agg #[.int .i64 d.what, .string nm, .string d.other, .string d.text, .slice Al nl cl, .int .i64 d.a, .int .i64 d.b]] w5 fun x w' => (∃ k, x = .returned (.int .i64 k)) ∧ AL w.heap.size w w' g bm) := Lib.hid (fun nm w5 hn hb5 =>
            alDo { d with name := nm } (fun k => k < w.heap.size) (.slice Al nl cl) hn hw (HLs.out.stay (Kept.of_below (hb5.mono hszr) (fun _ h => h)) (fun _ h => h)) (fun k hk => Nat.lt_of_lt_of_le hk (Nat.le_trans hszr hb5.size)) HQ.out.1 HQ.out.2.1 HQ.out.2.2.1 HQ.out.2.2.2.1 HQ.out.2.2.2.2 (KK.out.below hb5))
          have hpar : i % 2 = 0 ∨ i % 2 = 1 := by omega
          have e1 := ab0
          have e2 := ab1
          have HLa := Lib.hid (fun (w6 : World) (ls : List Ln) (k : Int) (h : ALn w.heap.size w w6 g bm ls k) => alLinesA h)
          have HLb := Lib.hid (fun (w6 : World) (ls : List Ln) (k : Int) (h : ALn w.heap.size w w6 g bm ls k) => alLinesB h)
          have HKa := Lib.hid (fun (w6 : World) (ls : List Ln) (k : Int) (h : ALn w.heap.size w w6 g bm ls k) => alKindA h)
          have HKb := Lib.hid (fun (w6 : World) (ls : List Ln) (k : Int) (h : ALn w.heap.size w w6 g bm ls k) => alKindB h)
          unfold nA at HLa HKa
          have hww : 0 ≤ d.what ∧ ¬ 3 < d.what ∨ 3 < d.what ∧ ¬ d.what < 7 ∧ ¬ 8 < d.what := by omega
          have hw0 : ¬ d.what < 0 := by omega
          have hw8 : ¬ 8 < d.what := by omega
          have hin : (⟨#[97]⟩ : ByteArray) = nA ∨ (⟨#[97]⟩ : ByteArray) = nB := .inl rfl
          have hin2 : (⟨#[98]⟩ : ByteArray) = nA ∨ (⟨#[98]⟩ : ByteArray) = nB := .inr rfl
          have HIn := Lib.hid hin
          have HIn2 := Lib.hid hin2
          clear hin hin2 hw
          rcases hpar with hp | hp
          · have hpi : (i : Int) % 2 = 0 := by omega
            rcases hww with ⟨hx1, hx2⟩ | ⟨hx1, hx2, hx3⟩
            all_goals
              go_wp2_with (first
                | (go_at_call 21; refine (HDo.out ⟨#[97]⟩ _ HIn.out ((Below.refl _ _).alloc (Nat.le_refl _) _)).mono ?_; rintro x w5 ⟨⟨kk, rfl⟩, hk5⟩; obtain ⟨ls, kd, hk5⟩ := hk5.ln; have K5 := Lib.hid hk5; clear hk5)
                | (go_at_call 17; with_reducible refine (HLa.out _ _ _ K5.out).mono ?_; rintro x w6 ⟨A6, n6, c6', rfl, hl6, hk6⟩; have K6 := Lib.hid hk6; have L6 := Lib.hid hl6; clear hk6 hl6)
                | (go_at_call 17; with_reducible refine (HLb.out _ _ _ K6.out).mono ?_; rintro x w7 ⟨A7, n7, c7', rfl, hl7, hk7, hb7⟩; have K7 := Lib.hid hk7; have L7 := Lib.hid hl7; have B7 := Lib.hid hb7; clear hk7 hl7 hb7)
                | (go_at_call 18; refine (lSame (fun k => w5.heap.size ≤ k ∧ k < w6.heap.size) (fun k => w6.heap.size ≤ k ∧ k < w7.heap.size) _ _ ls _ (L6.out.stay (Kept.of_all B7.out) (fun _ h => h)) L7.out (fun k hk => Nat.lt_of_lt_of_le hk.2 B7.out.size) (fun k hk => hk.2)).mono ?_; rintro x w8 ⟨rfl, hb8⟩; have K8 := Lib.hid (K7.out.below hb8); clear hb8)
                | (go_at_call 22; with_reducible refine (HKa.out _ _ _ K8.out).mono ?_; rintro x w9 ⟨rfl, rfl⟩)
                | (go_at_call 22; with_reducible refine (HKb.out _ _ _ K8.out).mono ?_; rintro x w9 ⟨rfl, rfl⟩))
              go_roundw
              case rel => exact ⟨i + 1, by omega, by go_num, K8.out.al⟩
              case measure => simp [intOf]; omega
          · have hpi : (i : Int) % 2 = 1 := by omega
            rcases hww with ⟨hx1, hx2⟩ | ⟨hx1, hx2, hx3⟩
            all_goals
              go_wp2_with (first
                | (go_at_call 21; refine (HDo.out ⟨#[98]⟩ _ HIn2.out ((Below.refl _ _).alloc (Nat.le_refl _) _)).mono ?_; rintro x w5 ⟨⟨kk, rfl⟩, hk5⟩; obtain ⟨ls, kd, hk5⟩ := hk5.ln; have K5 := Lib.hid hk5; clear hk5)
                | (go_at_call 17; with_reducible refine (HLa.out _ _ _ K5.out).mono ?_; rintro x w6 ⟨A6, n6, c6', rfl, hl6, hk6⟩; have K6 := Lib.hid hk6; have L6 := Lib.hid hl6; clear hk6 hl6)
                | (go_at_call 17; with_reducible refine (HLb.out _ _ _ K6.out).mono ?_; rintro x w7 ⟨A7, n7, c7', rfl, hl7, hk7, hb7⟩; have K7 := Lib.hid hk7; have L7 := Lib.hid hl7; have B7 := Lib.hid hb7; clear hk7 hl7 hb7)
                | (go_at_call 18; refine (lSame (fun k => w5.heap.size ≤ k ∧ k < w6.heap.size) (fun k => w6.heap.size ≤ k ∧ k < w7.heap.size) _ _ ls _ (L6.out.stay (Kept.of_all B7.out) (fun _ h => h)) L7.out (fun k hk => Nat.lt_of_lt_of_le hk.2 B7.out.size) (fun k hk => hk.2)).mono ?_; rintro x w8 ⟨rfl, hb8⟩; have K8 := Lib.hid (K7.out.below hb8); clear hb8)
                | (go_at_call 22; with_reducible refine (HKa.out _ _ _ K8.out).mono ?_; rintro x w9 ⟨rfl, rfl⟩)
                | (go_at_call 22; with_reducible refine (HKb.out _ _ _ K8.out).mono ?_; rintro x w9 ⟨rfl, rfl⟩))
              go_roundw
              case rel => exact ⟨i + 1, by omega, by go_num, K8.out.al⟩
              case measure => simp [intOf]; omega
        · have hst : d.what < 0 ∨ ¬ d.what < 0 ∧ 3 < d.what ∧ d.what < 7 ∨ ¬ d.what < 0 ∧ 3 < d.what ∧ ¬ d.what < 7 ∧ 8 < d.what := by omega
          clear hw
          rcases hst with hx1 | ⟨hx1, hx2, hx3⟩ | ⟨hx1, hx2, hx3, hx4⟩
          all_goals
            go_wp2_with fail
            go_roundw
            case rel => exact ⟨i + 1, by omega, by go_num, KK.out.below ((Below.refl _ _).alloc (Nat.le_refl _) _)⟩
            case measure => simp [intOf]; omega
      · obtain ⟨ls, kd, hk⟩ := KK.out.ln
        have hkd : kd ≠ 0 := by
          obtain ⟨_, _, _, _, _, _, _, _, h⟩ := hk
          exact h
        have hkb : (kd != 0) = true := by simpa using hkd
        have HRm := Lib.hid (alRemove hk)
        have HKb := Lib.hid (fun (w6 : World) (h : BL w.heap.size w w6 g bm kd) => blKindB h)
        have HKa := Lib.hid (fun (w6 : World) (h : BL w.heap.size w w6 g bm kd) => blKindA h)
        unfold nA at HRm HKa
        clear hk
        go_wp2_with (first
          | (go_at_call 23; refine HRm.out.mono ?_; rintro x w5 ⟨rfl, hk5⟩; have K5 := Lib.hid hk5; clear hk5)
          | (go_at_call 22; with_reducible refine (HKb.out _ K5.out).mono ?_; rintro x w6 ⟨rfl, rfl⟩)
          | (go_at_call 22; with_reducible refine (HKa.out _ K5.out).mono ?_; rintro x w6 ⟨rfl, rfl⟩)
          | (go_at_call 9; refine (HS.out _).mono ?_; rintro e w7 ⟨rfl, hb7⟩))
        go_ret
        exact ⟨rfl, K5.out.out.trans (hb7.mono K5.out.out.size)⟩
end Go.Proofs.Ytbedddgfijpbcaa
