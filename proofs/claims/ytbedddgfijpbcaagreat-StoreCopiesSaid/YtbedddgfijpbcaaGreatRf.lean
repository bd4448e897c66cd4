/- Walks: Kind, Remove, Rename, Alias, of the document's store. Walks: Rename, Alias, of the document's store. -/
import Derived.Test.YtbedddgfijpbcaaGreatRe
namespace Go.Proofs.YtbedddgfijpbcaaGreat
open Go.RowKit Go.Maps Go.WideMaps

/-- The entries by their numbers. -/
def eF (es : List En) : Nat → En := fun i => es.getD i (.str ⟨#[]⟩)
section
variable {U K : Nat → Prop} {w w' : World} {x : Nat} {M : List Ent} {es : List En}
theorem RSt.q2 (h : RSt U K w x M es) (k : Nat) (hk : @LT.lt Nat _ k es.length) : ∃ g c v, w.cell? ⟨x, 2, none⟩ = some (.slice (some ⟨g, 0, none⟩) es.length c) ∧ es.length ≤ c ∧ w.cell? ⟨g, k * 2, none⟩ = some (.int .i64 (eF es k).kind) ∧ w.cell? ⟨g, k * 2 + 1, none⟩ = some v ∧ LnsAt K w v (enL (eF es k)) ∧ okE (eF es k) := by
  obtain ⟨zs, nv, ev, h, rfl⟩ := h
  rw [List.length_map] at hk ⊢
  obtain ⟨Ae, cap, rfl, hcap, hA⟩ := own_form2 h.ens
  obtain ⟨g, rfl⟩ := hA (by omega)
  have hz := List.getElem?_eq_getElem hk
  obtain ⟨d0, d1⟩ := h.en hz
  have he : eF (zs.map (·.1)) k = zs[k].1 := by
    unfold eF
    rw [List.getD_eq_getElem?_getD, List.getElem?_map, hz]
    rfl
  rw [he]
  exact ⟨g, cap, _, h.q2, hcap, d0, d1, (h.lns _ (List.getElem_mem hk)).1, (h.lns _ (List.getElem_mem hk)).2⟩
theorem RSt.at_ (h : RSt U K w x M es) {s : ByteArray} (hh : hasB M s = true) : @LT.lt Nat _ (getR M s) es.length := by
  obtain ⟨zs, nv, ev, h, rfl⟩ := h
  rw [List.length_map]
  exact h.ats _ (mem_get hh)
theorem RSt.srt (h : RSt U K w x M es) : Srt M ∧ M.length ≤ 500 ∧ ∀ p ∈ M, nameB p.1 = true := by
  obtain ⟨zs, nv, ev, h, rfl⟩ := h
  exact ⟨h.srt, h.len, h.good⟩
/-- Kind. -/
theorem nKind (s : ByteArray) (h : RSt U K w x M es) :
    Calls Tryz.prog 69 #[.pointer (some ⟨x, 0, none⟩), .string s] w fun e w' => e = .returned (.int .i64 (kdI M (eF es) s)) ∧ w = w' := by
  have hT := nThere s h
  unfold fdE at hT
  unfold kdI
  cases hh : hasB M s
  · rw [hh] at hT
    simp only [Bool.false_eq_true, if_false] at hT ⊢
    have HT := Lib.hid hT
    clear hT h
    go_enter Tryz.func69, Tryz.ntmps69
    go_wp2_with (go_at_call 56; refine HT.out.mono ?_; rintro e w1 ⟨rfl, rfl⟩)
    go_ret
    exact ⟨rfl, rfl⟩
  · rw [hh] at hT
    simp only [if_true] at hT ⊢
    have HT := Lib.hid hT
    have hat := h.at_ hh
    obtain ⟨k, hk⟩ : ∃ k : Nat, getR M s = k := ⟨_, rfl⟩
    simp only [hk] at HT hat ⊢
    have hat : @LT.lt Nat _ k es.length := hat
    obtain ⟨g, c, v, c2, hc, d0, d1, _, _⟩ := h.q2 k hat
    generalize (eF es k).kind = kd at *
    clear hT h hk hh
    go_enter Tryz.func69, Tryz.ntmps69
    go_wp2_with (go_at_call 56; refine HT.out.mono ?_; rintro e w1 ⟨rfl, rfl⟩)
    go_ret
    exact ⟨rfl, rfl⟩
/-- Remove. -/
theorem nRemove (s : ByteArray) (hs : s.size ≤ maxLen) (h : RSt U K w x M es) :
    Calls Tryz.prog 28 #[.pointer (some ⟨x, 0, none⟩), .string s] w fun e w' => e = .returned (.int .i64 (erI (nameB s) 6)) ∧ RTo U K w w' x (if nameB s then delR M s else M) es := by
  have HN := Lib.hid (nName s hs w)
  have HZ := Lib.hid (nNo h)
  have HL := Lib.hid (nLose s h)
  have HS := Lib.hid (RTo.same h (Below.refl _ w))
  clear h
  cases hn : nameB s
  · rw [hn] at HN
    simp only [Bool.false_eq_true, if_false]
    go_enter Tryz.func28, Tryz.ntmps28
    go_wp2_with (first
      | (go_at_call 38; refine HZ.out.mono ?_; rintro e w1 ⟨rfl, rfl⟩)
      | (go_at_call 51; refine HN.out.mono ?_; rintro e w1 ⟨rfl, rfl⟩))
    go_ret
    exact ⟨rfl, HS.out⟩
  · rw [hn] at HN
    simp only [if_true]
    go_enter Tryz.func28, Tryz.ntmps28
    go_wp2_with (first
      | (go_at_call 38; refine HZ.out.mono ?_; rintro e w1 ⟨rfl, rfl⟩)
      | (go_at_call 51; refine HN.out.mono ?_; rintro e w1 ⟨rfl, rfl⟩)
      | (go_at_call 55; refine HL.out.mono ?_; rintro e w1 ⟨rfl, hr⟩))
    go_ret
    exact ⟨rfl, hr⟩
end
end Go.Proofs.YtbedddgfijpbcaaGreat
namespace Go.Proofs.YtbedddgfijpbcaaGreat
open Go.RowKit Go.Maps Go.WideMaps

section
variable {U K : Nat → Prop} {w w' : World} {x : Nat} {M : List Ent} {es : List En}
theorem del_len (hM : Srt M) {s : ByteArray} (hh : hasB M s = true) : (delR M s).length + 1 = M.length := by
  have := len_put (L := delR M s) (n := s) (r := 0)
  rw [put_del hM, len_put, hh, has_del_at hM] at this
  simpa using this.symm
set_option maxHeartbeats 1000000 in
/-- Rename. -/
theorem nRename (s t : ByteArray) (ht : t.size ≤ maxLen) (h : RSt U K w x M es) :
    Calls Tryz.prog 29 #[.pointer (some ⟨x, 0, none⟩), .string s, .string t] w fun e w' => e = .returned (.int .i64 (rnE M s t)) ∧ RTo U K w w' x (if rnE M s t = 0 then putR (delR M s) t (getR M s) else M) es := by
  have hT := nThere s h
  have HN := Lib.hid (nName t ht w)
  have HS := Lib.hid (RTo.same h (Below.refl _ w))
  unfold fdE at hT
  unfold rnE
  cases hh : hasB M s
  · rw [hh] at hT
    simp only [Bool.false_eq_true, if_false] at hT ⊢
    rw [if_neg (by decide)]
    have HT := Lib.hid hT
    clear hT h
    go_enter Tryz.func29, Tryz.ntmps29
    go_wp2_with (go_at_call 56; refine HT.out.mono ?_; rintro e w1 ⟨rfl, rfl⟩)
    go_ret
    exact ⟨rfl, HS.out⟩
  · rw [hh] at hT
    simp only [if_true] at hT ⊢
    have HT := Lib.hid hT
    have hat := h.at_ hh
    cases hn : nameB t
    · rw [hn] at HN
      rw [show erI false 6 = (6 : Int) from rfl, if_neg (by decide)]
      obtain ⟨k, hk⟩ : ∃ k : Nat, getR M s = k := ⟨_, rfl⟩
      simp only [hk] at HT
      clear hT h hat hk
      go_enter Tryz.func29, Tryz.ntmps29
      go_wp2_with (first
        | (go_at_call 56; refine HT.out.mono ?_; rintro e w1 ⟨rfl, rfl⟩)
        | (go_at_call 51; refine HN.out.mono ?_; rintro e w1 ⟨rfl, rfl⟩))
      go_ret
      exact ⟨rfl, HS.out⟩
    · rw [hn] at HN
      simp only [erI, if_true]
      have he := eq_toList s t
      have hM := h.srt
      by_cases hst : s = t
      · rw [decide_eq_true hst] at he
        have hsame : putR (delR M s) t (getR M s) = M := by rw [← hst, put_del hM.1, put_same hh]
        rw [hsame]
        obtain ⟨k, hk⟩ : ∃ k : Nat, getR M s = k := ⟨_, rfl⟩
        simp only [hk] at HT
        clear hT h hat hk hst hsame
        go_enter Tryz.func29, Tryz.ntmps29
        go_wp2_with (first
          | (go_at_call 56; refine HT.out.mono ?_; rintro e w1 ⟨rfl, rfl⟩)
          | (go_at_call 51; refine HN.out.mono ?_; rintro e w1 ⟨rfl, rfl⟩))
        go_ret
        exact ⟨rfl, HS.out⟩
      · rw [decide_eq_false hst] at he
        have HL := Lib.hid (nLose s h)
        have HLd := Lib.hid (fun (w1 : World) (U1 K1 : Nat → Prop) (h1 : RSt U1 K1 w1 x (delR M s) es) => nLead t (getR M s) hn hat (.inr (by have := del_len hM.1 hh; have := hM.2.1; omega)) h1)
        obtain ⟨k, hk⟩ : ∃ k : Nat, getR M s = k := ⟨_, rfl⟩
        simp only [hk] at HT HLd ⊢
        clear hT h hat hk hst
        go_enter Tryz.func29, Tryz.ntmps29
        go_wp2_with (first
          | (go_at_call 56; refine HT.out.mono ?_; rintro e w1 ⟨rfl, rfl⟩)
          | (go_at_call 51; refine HN.out.mono ?_; rintro e w1 ⟨rfl, rfl⟩)
          | (go_at_call 55; refine HL.out.mono ?_; rintro e w1 ⟨rfl, hr⟩; obtain ⟨U1, K1, hr1, hr2, hr3, hr4⟩ := hr)
          | (go_at_call 57; refine (HLd.out _ _ _ hr1).mono ?_; rintro e w2 ⟨rfl, hq⟩))
        go_ret
        exact ⟨rfl, RTo.trans hr2 hr3 hr4 hq⟩
set_option maxRecDepth 100000 in
set_option maxHeartbeats 1000000 in
/-- Alias. -/
theorem nAlias (t s : ByteArray) (ht : t.size ≤ maxLen) (h : RSt U K w x M es) :
    Calls Tryz.prog 30 #[.pointer (some ⟨x, 0, none⟩), .string t, .string s] w fun e w' => e = .returned (.int .i64 (alE M t s)) ∧ RTo U K w w' x (if alE M t s = 0 then putR M t (getR M s) else M) es := by
  have hT := nThere s h
  have HN := Lib.hid (nName t ht w)
  have HS := Lib.hid (RTo.same h (Below.refl _ w))
  unfold fdE at hT
  unfold alE
  cases hh : hasB M s
  · rw [hh] at hT
    simp only [Bool.false_eq_true, if_false] at hT ⊢
    rw [if_neg (by decide)]
    have HT := Lib.hid hT
    clear hT h
    go_enter Tryz.func30, Tryz.ntmps30
    go_wp2_with (go_at_call 56; refine HT.out.mono ?_; rintro e w1 ⟨rfl, rfl⟩)
    go_ret
    exact ⟨rfl, HS.out⟩
  · rw [hh] at hT
    simp only [if_true] at hT ⊢
    have HT := Lib.hid hT
    have hat := h.at_ hh
    cases hn : nameB t
    · rw [hn] at HN
      simp only [Bool.false_eq_true, if_false]
      rw [if_neg (by decide)]
      obtain ⟨k, hk⟩ : ∃ k : Nat, getR M s = k := ⟨_, rfl⟩
      simp only [hk] at HT
      clear hT h hat hk
      go_enter Tryz.func30, Tryz.ntmps30
      go_wp2_with (first
        | (go_at_call 56; refine HT.out.mono ?_; rintro e w1 ⟨rfl, rfl⟩)
        | (go_at_call 51; refine HN.out.mono ?_; rintro e w1 ⟨rfl, rfl⟩))
      go_ret
      exact ⟨rfl, HS.out⟩
    · rw [hn] at HN
      simp only [if_true]
      have he := eq_toList t s
      have hM := h.srt
      by_cases hst : t = s
      · rw [decide_eq_true hst] at he
        rw [if_pos hst, if_neg (by decide)]
        obtain ⟨k, hk⟩ : ∃ k : Nat, getR M s = k := ⟨_, rfl⟩
        simp only [hk] at HT
        clear hT h hat hk hst
        go_enter Tryz.func30, Tryz.ntmps30
        go_wp2_with (first
          | (go_at_call 56; refine HT.out.mono ?_; rintro e w1 ⟨rfl, rfl⟩)
          | (go_at_call 51; refine HN.out.mono ?_; rintro e w1 ⟨rfl, rfl⟩))
        go_ret
        exact ⟨rfl, HS.out⟩
      · rw [decide_eq_false hst] at he
        rw [if_neg hst]
        clear hst
        have hF := nFind t h
        unfold fdI at hF
        have hlen := hM.2.1
        obtain ⟨A1, n1, c1, hq1, hn1⟩ : ∃ A n c, w.cell? ⟨x, 1, none⟩ = some (.slice A n c) ∧ n = M.length := by
          obtain ⟨zs, nv, ev, h, rfl⟩ := h
          obtain ⟨A, c, rfl, _, _⟩ := own_form2 h.nms
          exact ⟨A, _, c, h.q1, rfl⟩
        subst hn1
        cases hht : hasB M t
        · rw [hht] at hF
          simp only [Bool.false_eq_true, if_false] at hF
          have HF := Lib.hid hF
          by_cases hfull : 500 ≤ M.length
          · rw [show fullB M t = true by unfold fullB; rw [hht]; simpa using hfull]
            simp only [if_true]
            rw [if_neg (by decide)]
            obtain ⟨k, hk⟩ : ∃ k : Nat, getR M s = k := ⟨_, rfl⟩
            simp only [hk] at HT
            clear hT h hat hk hF
            go_enter Tryz.func30, Tryz.ntmps30
            go_wp2_with (first
              | (go_at_call 56; refine HT.out.mono ?_; rintro e w1 ⟨rfl, rfl⟩)
              | (go_at_call 53; refine HF.out.mono ?_; rintro e w1 ⟨rfl, rfl⟩)
              | (go_at_call 51; refine HN.out.mono ?_; rintro e w1 ⟨rfl, rfl⟩))
            go_ret
            exact ⟨rfl, HS.out⟩
          · rw [show fullB M t = false by unfold fullB; rw [hht]; simpa using hfull]
            simp only [Bool.false_eq_true, if_false, if_true]
            have HLd := Lib.hid (nLead t (getR M s) hn hat (.inr (by omega)) h)
            obtain ⟨k, hk⟩ : ∃ k : Nat, getR M s = k := ⟨_, rfl⟩
            simp only [hk] at HT HLd ⊢
            clear hT h hat hk hF
            go_enter Tryz.func30, Tryz.ntmps30
            go_wp2_with (first
              | (go_at_call 56; refine HT.out.mono ?_; rintro e w1 ⟨rfl, rfl⟩)
              | (go_at_call 53; refine HF.out.mono ?_; rintro e w1 ⟨rfl, rfl⟩)
              | (go_at_call 51; refine HN.out.mono ?_; rintro e w1 ⟨rfl, rfl⟩)
              | (go_at_call 57; refine HLd.out.mono ?_; rintro e w2 ⟨rfl, hq⟩))
            go_ret
            exact ⟨rfl, hq⟩
        · rw [hht] at hF
          simp only [if_true] at hF
          have HF := Lib.hid hF
          rw [show fullB M t = false by unfold fullB; rw [hht]; rfl]
          simp only [Bool.false_eq_true, if_false, if_true]
          have HLd := Lib.hid (nLead t (getR M s) hn hat (.inl hht) h)
          obtain ⟨k, hk⟩ : ∃ k : Nat, getR M s = k := ⟨_, rfl⟩
          obtain ⟨k2, hk2⟩ : ∃ k : Nat, getR M t = k := ⟨_, rfl⟩
          simp only [hk] at HT HLd ⊢
          simp only [hk2] at HF
          clear hT h hat hk hF hk2
          go_enter Tryz.func30, Tryz.ntmps30
          go_wp2_with (first
            | (go_at_call 56; refine HT.out.mono ?_; rintro e w1 ⟨rfl, rfl⟩)
            | (go_at_call 53; refine HF.out.mono ?_; rintro e w1 ⟨rfl, rfl⟩)
            | (go_at_call 51; refine HN.out.mono ?_; rintro e w1 ⟨rfl, rfl⟩)
            | (go_at_call 57; refine HLd.out.mono ?_; rintro e w2 ⟨rfl, hq⟩))
          go_ret
          exact ⟨rfl, hq⟩
end
end Go.Proofs.YtbedddgfijpbcaaGreat
