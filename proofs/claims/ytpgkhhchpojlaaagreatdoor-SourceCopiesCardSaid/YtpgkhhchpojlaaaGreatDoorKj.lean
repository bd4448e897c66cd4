/- Walks of the document's stack: Return, Instead. -/
import Derived.Test.YtpgkhhchpojlaaaGreatDoorKz
import Derived.Test.YtpgkhhchpojlaaaGreatDoorKf
namespace Go.Proofs.YtpgkhhchpojlaaaGreatDoor
open Go.RowKit Go.Maps Go.WideMaps

section
variable {U K : Nat → Prop} {w w' : World} {x : Nat} {fs : List Fr}
/-- The first frames of the stack, copied. -/
theorem RK.cut {zs : List Fv} {g cap m : Nat} (h : RK U K w x zs (.slice (some ⟨g, 0, none⟩) zs.length cap)) (hm : m ≤ zs.length) (ty : TypeId) :
    ∃ A' c' w3, (Builtin.append_ #[50, 50] ty #[.slice (some ⟨w.heap.size, 0, none⟩) 0 0, .slice (some ⟨g, 0, none⟩) m cap]).run Tryz.prog (w.alloc (.cells #[] 64)) = .ok (.slice A' m c') w3 ∧ Below w.heap.size w w3 ∧
      w3.ownsRow w.heap.size 64 5 (.slice A' m c') m (rkCs (zs.take m)) ∧ w3.cell? ⟨x, 1, none⟩ = some (.slice (some ⟨g, 0, none⟩) zs.length cap) ∧ w3.frozen? ⟨x, 1, none⟩ = false ∧
      KTo U K w (w3.setCell ⟨x, 1, none⟩ (.slice A' m c')) x ((zs.take m).map (·.1)) := by
  have hlen := h.len
  have hone := one_all h.hold
  obtain ⟨v3, w3, qrun, hown3, hb3, A3, c3, rfl⟩ := runCopy (t := 50) (bytes := 80) Tryz.underlying50 frame_info rfl (by omega) w ty (some ⟨g, 0, none⟩) m cap (rkCs (zs.take m)) (by rw [rkCs_len, List.length_take, Nat.min_eq_left hm])
    (fun _ => ⟨g, 0, rfl, fun j u hu => by
      rw [Nat.zero_add]
      rw [rkCs_take] at hu
      have hj := (List.getElem?_eq_some_iff.1 hu).1
      rw [List.getElem?_take, if_pos (by rw [List.length_take] at hj; omega)] at hu
      exact own_cellAt h.own hu⟩) (fun u hu => hone u (by rw [rkCs_take] at hu; exact List.mem_of_mem_take hu)) (by omega) (by omega)
  exact ⟨A3, c3, w3, qrun, hb3, hown3, (h.below hb3).c1, (h.below hb3).f1, h.lay (B := w.heap.size) hb3 (Nat.le_refl _) (by rw [List.length_take, Nat.min_eq_left hm]; exact hown3) (fun z hz => (h.hold z (List.mem_of_mem_take hz)).stay (Kept.of_all hb3) (fun _ h => h)) (by rw [List.map_take]; exact h.ok.take m)⟩
set_option maxRecDepth 100000 in
set_option maxHeartbeats 1000000 in
/-- Return. -/
theorem nReturn (all : Bool) (h : RKt U K w x fs) :
    Calls Tryz.prog 29 #[.pointer (some ⟨x, 0, none⟩), .bool all] w fun e w' => e = .returned (.int .i64 (rtE fs)) ∧ KTo U K w w' x (rtF all fs) := by
  have HN := Lib.hid (nNo h)
  have HT : Hid (Calls Tryz.prog 64 #[.pointer (some ⟨x, 0, none⟩), .int .i64 2] w fun e w' => e = .returned (.int .i64 ((macN fs : Nat) - 1 : Int)) ∧ w = w') := Lib.hid (nTop 2 h)
  have hle : macN fs ≤ fs.length := topN_le fs
  have hlen := h.ok.1
  unfold rtE rtF
  by_cases h0 : macN fs = 0
  · rw [if_pos h0, if_pos h0]
    rw [h0] at HT
    have HS := Lib.hid (KTo.same h (Below.refl _ _))
    clear h
    go_enter Tryz.func29, Tryz.ntmps29
    go_wp2_with (first
      | (go_at_call 43; refine HN.out.mono ?_; rintro e w1 ⟨rfl, rfl⟩)
      | (go_at_call 64; refine HT.out.mono ?_; rintro e w1 ⟨rfl, rfl⟩))
    go_ret
    exact ⟨rfl, HS.out⟩
  · rw [if_neg h0, if_neg h0]
    obtain ⟨q, hq⟩ : ∃ q, macN fs = q + 1 := ⟨macN fs - 1, by omega⟩
    rw [hq] at HT hle ⊢
    rw [show ((q + 1 : Nat) : Int) - 1 = (q : Int) by omega] at HT
    rw [Nat.add_sub_cancel]
    obtain ⟨zs, v, h, rfl⟩ := h
    rw [List.length_map] at hle hlen
    obtain ⟨g, cap, rfl, hcap, _, _⟩ := own_pos h.own (by omega)
    have c1 := h.c1
    have c1' := (h.below ((Below.refl w.heap.size w).alloc (Nat.le_refl _) (.cells #[] 64))).c1
    cases all
    · obtain ⟨A3, c3, w3, qrun, _, _, hx1, hx2, hk⟩ := h.cut (m := q) (by omega) 50
      rw [List.map_take] at hk
      have HK := Lib.hid hk
      clear h hk
      go_enter Tryz.func29, Tryz.ntmps29
      go_wp2_with (first
        | (go_at_call 43; refine HN.out.mono ?_; rintro e w1 ⟨rfl, rfl⟩)
        | (go_at_call 64; refine HT.out.mono ?_; rintro e w1 ⟨rfl, rfl⟩)
        | (at_builtin; refine wpList_append_run _ rfl (.tmp 30) (.tmp 36) _ rfl _ _ rfl rfl _ _ qrun ?_; clear qrun))
      go_ret
      exact ⟨rfl, HK.out⟩
    · have HLow := Lib.hid (fun (a : Nat) (ha : a ≤ zs.length) => h.cut (m := a) ha 50)
      have HX := Lib.hid h
      obtain ⟨f0, hf0, hfm⟩ := topN_at (p := Fr.is 2) (fs := zs.map (·.1)) (by show 0 < macN _; omega)
      have hf0 : (zs.map (·.1))[q]? = some f0 := by rw [← hf0]; congr 1; show q = macN _ - 1; omega
      have HStart := Lib.hid (And.intro hf0 hfm)
      clear h hf0 hfm
      go_enter Tryz.func29, Tryz.ntmps29
      go_wp2_with (first
        | (go_at_call 43; refine HN.out.mono ?_; rintro e w1 ⟨rfl, rfl⟩)
        | (go_at_call 64; refine HT.out.mono ?_; rintro e w1 ⟨rfl, rfl⟩))
      go_loop [5, 6] (fun v5 v6 => ∃ i a : Nat, i ≤ q + 1 ∧ a ≤ q ∧ v6 = .int .i64 ((i : Int) - 1) ∧ v5 = .int .i64 a ∧ (∃ f, (zs.map (·.1))[a]? = some f ∧ f.is 2 = true) ∧ ∀ (j : Nat) f, i ≤ j → j < a → (zs.map (·.1))[j]? = some f → f.is 2 = false) (fun _ v6 => (intOf v6 + 1).toNat)
      case atStart => exact ⟨q + 1, q, Nat.le_refl _, Nat.le_refl _, by congr 1; omega, rfl, ⟨f0, HStart.out⟩, fun j f h1 h2 => by omega⟩
      case round =>
        obtain ⟨i, a, hi, ha, hv6, rfl, hfa, hall⟩ := hrel
        have HFa := Lib.hid hfa
        have HAll := Lib.hid hall
        clear hfa hall
        rcases i with _ | k
        · have hv6 : _ = Value.int .i64 (-1) := hv6
          subst hv6
          obtain ⟨A3, c3, w3, qrun, _, _, hx1, hx2, hk⟩ := HLow.out a (by omega)
          rw [List.map_take] at hk
          have hlow : lowN (zs.map (·.1)) = a := by
            obtain ⟨f, h1, h2⟩ := HFa.out
            exact low_of h1 h2 (fun j f hj hf => HAll.out j f (Nat.zero_le _) hj hf)
          have HLw := Lib.hid hlow
          have HK := Lib.hid hk
          clear hk hlow
          go_wp2_with (at_builtin; refine wpList_append_run _ rfl (.tmp 30) (.tmp 36) _ rfl _ _ rfl rfl _ _ qrun ?_; clear qrun)
          go_ret
          exact ⟨rfl, by rw [HLw.out]; exact HK.out⟩
        · have hv6 : _ = Value.int .i64 (k : Int) := hv6.trans (by rw [show ((k + 1 : Nat) : Int) - 1 = k by omega])
          subst hv6
          have hz := List.getElem?_eq_getElem (show k < zs.length by omega)
          generalize zs[k] = z at hz
          obtain ⟨d0, _, _, _, _⟩ := HX.out.cells hz
          have HZ := Lib.hid (get_fr hz)
          clear hz
          by_cases hk : z.1.kind = 2
          · have hB : (z.1.kind == 2) = true := by simp [hk]
            have HI : Hid (z.1.is 2 = true) := Lib.hid (decide_eq_true hk)
            clear hk
            go_wp2_with fail
            go_round
            case rel => exact ⟨k, k, by omega, by omega, by go_num, rfl, ⟨z.1, HZ.out, HI.out⟩, fun j f h1 h2 => by omega⟩
            case measure => simp [intOf]
          · have hB : (z.1.kind == 2) = false := by simp [hk]
            have HI : Hid (z.1.is 2 = false) := Lib.hid (decide_eq_false hk)
            clear hk
            go_wp2_with fail
            go_round
            case rel => exact ⟨k, a, by omega, ha, by go_num, rfl, HFa.out, fun j f h1 h2 hf => by
              by_cases e : j = k
              · subst e
                rw [HZ.out] at hf
                injection hf with hf
                subst hf
                exact HI.out
              · exact HAll.out j f (by omega) h2 hf⟩
            case measure => simp [intOf]
theorem nInsteadNo (n t : ByteArray) (hs : n.size ≤ maxLen) (ht : t.size ≤ 1000000) (hok : (nmdB n && rdB t) = false) (h : RKt U K w x fs) :
    Calls Tryz.prog 30 #[.pointer (some ⟨x, 0, none⟩), .string n, .string t] w fun e w' => e = .returned (.int .i64 1) ∧ KTo U K w w' x fs := by
  have HR := Lib.hid (nRead t ht w)
  have HZ := Lib.hid (fun (w1 : World) (hb : Below w.heap.size w w1) => nNo (h.below hb))
  have HN := Lib.hid (fun w => nNamed n hs w)
  have HS := Lib.hid (fun w' (hb : Below w.heap.size w w') => KTo.same h hb)
  clear h
  cases hn : nmdB n
  · rw [hn] at HN
    clear hok
    go_enter Tryz.func30, Tryz.ntmps30
    go_wp2_with (first
      | (go_at_call 58; refine HR.out.mono ?_; rintro e w1 ⟨A, k, c, rfl, hl, hb1⟩)
      | (go_at_call 43; refine (HZ.out _ hb1).mono ?_; rintro e w2 ⟨rfl, rfl⟩)
      | (go_at_call 59; refine (HN.out _).mono ?_; rintro e w2 ⟨rfl, rfl⟩))
    go_ret
    exact ⟨rfl, HS.out _ hb1⟩
  · rw [hn] at HN
    rw [hn, Bool.true_and] at hok
    rw [hok] at HR
    clear hok
    go_enter Tryz.func30, Tryz.ntmps30
    go_wp2_with (first
      | (go_at_call 58; refine HR.out.mono ?_; rintro e w1 ⟨A, k, c, rfl, _, hb1⟩)
      | (go_at_call 43; refine (HZ.out _ hb1).mono ?_; rintro e w2 ⟨rfl, rfl⟩)
      | (go_at_call 59; refine (HN.out _).mono ?_; rintro e w2 ⟨rfl, rfl⟩))
    go_ret
    exact ⟨rfl, HS.out _ hb1⟩
set_option maxRecDepth 100000 in
set_option maxHeartbeats 1000000 in
/-- Instead. -/
theorem nInstead (n t : ByteArray) (hs : n.size ≤ maxLen) (ht : t.size ≤ 1000000) (h : RKt U K w x fs) :
    Calls Tryz.prog 30 #[.pointer (some ⟨x, 0, none⟩), .string n, .string t] w fun e w' => e = .returned (.int .i64 (inE (nmdB n && rdB t) fs)) ∧ KTo U K w w' x (inF (nmdB n && rdB t) fs (filFr n t)) := by
  cases hok : nmdB n && rdB t
  · exact nInsteadNo n t hs ht hok h
  · rw [Bool.and_eq_true] at hok
    obtain ⟨hn, hr⟩ := hok
    have HR := Lib.hid (nRead t ht w)
    have HZ := Lib.hid (fun (w1 : World) (hb : Below w.heap.size w w1) => nNo (h.below hb))
    have HN := Lib.hid (fun w => nNamed n hs w)
    have hfok := filFr_ok hn hr
    rw [hn] at HN
    rw [hr] at HR
    have HT := Lib.hid (fun (w1 : World) (hb : Below w.heap.size w w1) => (show Calls Tryz.prog 64 #[.pointer (some ⟨x, 0, none⟩), .int .i64 1] w1 fun e w' => e = .returned (.int .i64 ((filN fs : Nat) - 1 : Int)) ∧ w1 = w' from nTop 1 (h.below hb)))
    have HS := Lib.hid (fun w' (hb : Below w.heap.size w w') => KTo.same h hb)
    have hle : filN fs ≤ fs.length := topN_le fs
    have hlen := h.ok.1
    unfold inE inF isE isF
    simp only [if_true]
    clear hn hr
    by_cases h0 : filN fs = 0
    · rw [if_pos h0, if_pos h0]
      rw [h0] at HT
      clear h
      go_enter Tryz.func30, Tryz.ntmps30
      go_wp2_with (first
        | (go_at_call 58; refine HR.out.mono ?_; rintro e w1 ⟨A, k, c, rfl, _, hb1⟩)
        | (go_at_call 43; refine (HZ.out _ hb1).mono ?_; rintro e w2 ⟨rfl, rfl⟩)
        | (go_at_call 59; refine (HN.out _).mono ?_; rintro e w2 ⟨rfl, rfl⟩)
        | (go_at_call 64; refine (HT.out _ hb1).mono ?_; rintro e w2 ⟨rfl, rfl⟩))
      go_ret
      exact ⟨rfl, HS.out _ hb1⟩
    · rw [if_neg h0, if_neg h0]
      obtain ⟨q, hq⟩ : ∃ q, filN fs = q + 1 := ⟨filN fs - 1, by omega⟩
      rw [hq] at HT hle ⊢
      rw [show ((q + 1 : Nat) : Int) - 1 = (q : Int) by omega] at HT
      rw [Nat.add_sub_cancel]
      obtain ⟨i0, hi0, hz0, hz1, hz2⟩ := info_parts frame_info
      obtain ⟨zs, v, h, rfl⟩ := h
      rw [List.length_map] at hle hlen
      obtain ⟨g, cap, rfl, hcap, _, _⟩ := own_pos h.own (by omega)
      have HAll := Lib.hid (fun (w1 : World) (hb : Below w.heap.size w w1) => (h.below hb).cut (m := q) (by omega) 50)
      have HC1 := Lib.hid (fun (w1 : World) (hb : Below w.heap.size w w1) => (h.below hb).c1)
      have HFin : Hid (∀ (w1 w3 w6 : World) (A : Option Addr) (k c : Nat) (A3 : Option Addr) (c3 : Nat) (v6 : Value), Below w.heap.size w w1 → Below w1.heap.size w1 w3 → LnsAt (fun k => w.heap.size ≤ k ∧ k < w1.heap.size) w1 (.slice A k c) (rdL t) → (w3.alloc (.cells #[.int .i64 1, .string n, .slice A k c, .slice none 0 0, .int .i64 0] 64)).grownBy w6 (Value.slice A3 q c3).ownBlock → (∀ j, (Value.slice A3 q c3).ownBlock = some j → w1.heap.size ≤ j) →
          w6.ownsRow w1.heap.size 64 5 v6 (q + 1) (rkCs (zs.take q) ++ [.int .i64 1, .string n, .slice A k c, .slice none 0 0, .int .i64 0]) →
          w6.cell? ⟨x, 1, none⟩ = some (.slice (some ⟨g, 0, none⟩) zs.length cap) ∧ w6.frozen? ⟨x, 1, none⟩ = false ∧ KTo U K w (w6.setCell ⟨x, 1, none⟩ v6) x ((zs.map (·.1)).take q ++ [filFr n t])) := Lib.hid (fun w1 w3 w6 A k c A3 c3 v6 hb1 hb3 hl hg hq3 ho => by
        have hs1 := hb1.size
        have hs3 := hb3.size
        have hb63 : Below w1.heap.size w1 w6 := (hb3.alloc hs3 _).grown hg (by simp; omega) hq3
        have hsin := RKt.since ⟨zs, _, h, rfl⟩ hb1
        obtain ⟨zs2, v2, h2, hzz⟩ := id hsin
        have h6 := (h.below hb1).below hb63
        have hK2 : RK U (fun i => K i ∨ w.heap.size ≤ i ∧ i < w1.heap.size) w1 x zs (.slice (some ⟨g, 0, none⟩) zs.length cap) :=
          have hh := h.below hb1
          ⟨hh.blk, hh.own, fun z hz => (hh.hold z hz).stay (fun _ _ _ => rfl) (fun i hi => .inl hi), hh.ok, hh.ux, hh.uv, hsin.sets.1, hh.ul, hsin.sets.2.2.1⟩
        refine ⟨h6.c1, h6.f1, KTo.since hb1 ?_⟩
        have := hK2.lay (v' := v6) (zs' := zs.take q ++ [((filFr n t, .slice A k c, .slice none 0 0) : Fv)]) hb63 (Nat.le_refl _) (by rw [List.length_append, List.length_take, Nat.min_eq_left (by omega), rkCs_app, rkCs_one]; exact ho) (fun z hz => ?_) ?_
        · rw [List.map_append, List.map_take] at this
          exact this
        · rcases List.mem_append.1 hz with hz | hz
          · exact (hK2.hold z (List.mem_of_mem_take hz)).stay (Kept.of_all hb63) (fun _ h => h)
          · rw [List.mem_singleton.1 hz]
            exact ⟨hl.stay (Kept.of_all hb63) (fun i hi => .inr hi), RowAt.nil⟩
        · rw [List.map_append, List.map_take]
          exact h.ok.push hfok (by omega))
      clear h
      go_enter Tryz.func30, Tryz.ntmps30
      go_wp2_with (first
        | (go_at_call 58; refine HR.out.mono ?_; rintro e w1 ⟨A, k, c, rfl, hl, hb1⟩; have HL := Lib.hid (hl rfl); clear hl; obtain ⟨A3, c3, w3, qrun, hb3, hown3, hx1, hx2, _⟩ := HAll.out w1 hb1; have k1 := HC1.out w1 hb1; have k2 := HC1.out _ (hb1.alloc hb1.size (.cells #[] 64)); have HO3 := Lib.hid (hown3.alloc (.cells #[.int .i64 1, .string n, .slice A k c, .slice none 0 0, .int .i64 0] 64)); have hn3 := Lib.hid (Blk.new w3 64 #[.int .i64 1, .string n, .slice A k c, .slice none 0 0, .int .i64 0]); have HB3 := Lib.hid hb3; clear hown3 hb3)
        | (go_at_call 43; refine (HZ.out _ hb1).mono ?_; rintro e w2 ⟨rfl, rfl⟩)
        | (go_at_call 59; refine (HN.out _).mono ?_; rintro e w2 ⟨rfl, rfl⟩)
        | (go_at_call 64; refine (HT.out _ hb1).mono ?_; rintro e w2 ⟨rfl, rfl⟩)
        | (at_builtin; refine wpList_append_run _ rfl (.tmp 31) (.tmp 37) _ rfl _ _ rfl rfl _ _ qrun ?_; clear qrun)
        | (at_builtin
           refine wpList_append_own_at _ rfl (.tmp 38) (.tmp 42) _ rfl w1.heap.size 64 i0 _ 5 80 Tryz.underlying50 hi0 hz0 hz1 hz2 rfl (by omega) (.slice A3 q c3) q _ rfl HO3.out ⟨w3.heap.size, 0, none⟩ 1 1 [.int .i64 1, .string n, .slice A k c, .slice none 0 0, .int .i64 0] rfl rfl (cells_new hn3.out) (by intro u hu; simp only [List.mem_cons, List.not_mem_nil, or_false] at hu; rcases hu with rfl | rfl | rfl | rfl | rfl <;> rfl) (by unfold maxLen; omega) (by omega) (by have := HB3.out.size; simp; omega) ?_
           intro v6 w6 hown6 hg6 _ _
           obtain ⟨Av6, cv6, rfl, _, _⟩ := own_form2 hown6
           obtain ⟨hx1, hx2, hxk⟩ := HFin.out w1 w3 w6 A k c A3 c3 _ hb1 HB3.out HL.out hg6 (fun j hj => own_ge HO3.out hj) hown6
           have HXK := Lib.hid hxk
           clear hxk hown6 hg6))
      go_ret
      exact ⟨rfl, HXK.out⟩
end
end Go.Proofs.YtpgkhhchpojlaaaGreatDoor
