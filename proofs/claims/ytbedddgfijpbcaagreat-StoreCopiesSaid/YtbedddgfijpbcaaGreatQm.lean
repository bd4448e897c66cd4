/- Walks: Rename, Alias, Remove. -/
import Derived.Test.YtbedddgfijpbcaaGreatQl
namespace Go.Proofs.YtbedddgfijpbcaaGreat
open Go.RowKit Go.Maps Go.WideMaps

theorem len_del_has {L : List Ent} {s : ByteArray} (h : hasB L s = true) : (delR L s).length + 1 = L.length := by
  have hk : idx L s < L.length := (List.getElem?_eq_some_iff.1 (has_at h)).1
  unfold delR
  rw [if_pos h, List.length_append, List.length_take, List.length_drop]
  omega
theorem eq_toList (a c : ByteArray) : (a.toList == c.toList) = decide (a = c) := by
  rw [ByteArray.toList_eq, ByteArray.toList_eq, Bool.eq_iff_iff]
  simp only [beq_iff_eq, decide_eq_true_eq]
  exact ⟨ba_ext, fun e => by rw [e]⟩
section
variable {U F : Nat → Prop} {R : Nat → Option Nat} {w : World} {g bm : Nat} {L : List Ent} {E : Nat → En}
/-- A name that is there leads to its entry. -/
theorem StAt.lead (h : StAt U F R w g bm L E) {e : Nat} (he : ∃ p ∈ L, p.2 = e) : EnAt (R e) F w e (E e) ∧ U e ∧ (∀ i, R e = some i → U i) ∧ ∀ q ∈ L, ∀ i, R q.2 = some i → R e = some i → q.2 = e := by
  obtain ⟨p, hp, rfl⟩ := he
  exact ⟨h.ent p hp, h.ue p hp, h.ur p hp, fun q hq i h1 h2 => h.sep q hq p hp i h1 h2⟩
/-- What Rename answers. -/
def rnE (L : List Ent) (s t : ByteArray) : Int := if hasB L s then erI (nameB t) 6 else 6
/-- Rename. -/
theorem cRename (s t : ByteArray) (hs : s.size ≤ maxLen) (ht : t.size ≤ maxLen) (h : StAt U F R w g bm L E) :
    Calls Tryz.prog 21 #[.pointer (some ⟨g, 0, none⟩), .string s, .string t] w fun x w' => x = .returned (.int .i64 (rnE L s t)) ∧ (rnE L s t ≠ 0 → w = w') ∧ (rnE L s t = 0 → StAt U F R w' g bm (putR (delR L s) t (getR L s)) E ∧ Turn U w w') := by
  have HF := Lib.hid (cFind s hs h)
  have HN := Lib.hid (fun w => cName t ht w)
  unfold fdV fdE at HF
  cases hh : hasB L s
  · have e1 : rnE L s t = 6 := by unfold rnE; rw [hh]; rfl
    rw [e1]
    rw [hh, lk_no hh, if_neg (by decide)] at HF
    clear e1 hh h
    go_enter Tryz.func21, Tryz.ntmps21
    go_wp2_with (go_at_call 43; refine HF.out.mono ?_; rintro e w1 ⟨rfl, rfl⟩)
    go_ret
    exact ⟨rfl, fun _ => rfl, fun h => by cases h⟩
  · rw [hh, lk_has hh, if_pos rfl] at HF
    have e1 : rnE L s t = erI (nameB t) 6 := by unfold rnE; rw [hh]; rfl
    rw [e1]
    cases hn : nameB t
    · rw [hn] at HN
      show Calls _ _ _ _ fun x w' => x = .returned (.int .i64 6) ∧ ((6 : Int) ≠ 0 → w = w') ∧ ((6 : Int) = 0 → _)
      clear e1 hh h hn
      go_enter Tryz.func21, Tryz.ntmps21
      go_wp2_with (first
        | (go_at_call 43; refine HF.out.mono ?_; rintro e w1 ⟨rfl, rfl⟩)
        | (go_at_call 47; refine (HN.out _).mono ?_; rintro e w1 ⟨rfl, rfl⟩))
      go_ret
      exact ⟨rfl, fun _ => rfl, fun h => by cases h⟩
    · rw [hn] at HN
      show Calls _ _ _ _ fun x w' => x = .returned (.int .i64 0) ∧ ((0 : Int) ≠ 0 → w = w') ∧ ((0 : Int) = 0 → _)
      have c0 := h.c0
      have hown := h.own
      have hmem : ∃ p ∈ L, p.2 = getR L s := ⟨_, mem_get hh, rfl⟩
      have hld := h.lead hmem
      have hlen := len_del_has hh
      have HP : Hid (∀ (w2 : World) (n : Nat), w2.ownsMap Tryz.prog 9 RR bm n ((DB L).del (kOf s)) → w.grownBy w2 (some bm) → StAt U F R w2 g bm (delR L s) E ∧ EnAt (R (getR L s)) F w2 (getR L s) (E (getR L s)) ∧ Turn U w w2) := Lib.hid (fun w2 n ho hg => by
        have hT := Turn.of_grown hg
        refine ⟨h.unlink ho hg, hld.1.stay (Kept.of_turn hT (fun i hi e' => ?_)) (fun _ h => h), hT.mono (fun i e => by rw [e]; exact h.ubm)⟩
        subst e'
        rcases hi with hi | hi | hi
        · obtain ⟨k, t, v, hb, _⟩ := hld.1
          exact map_ne_cells hb h.own hi.symm
        · obtain ⟨cs, hcs⟩ := hld.1.row hi
          exact map_ne_cells hcs h.own rfl
        · exact h.uf _ h.ubm hi)
      have HQ : Hid (∀ (w2 w3 : World) (n : Nat), StAt U F R w2 g bm (delR L s) E ∧ EnAt (R (getR L s)) F w2 (getR L s) (E (getR L s)) ∧ Turn U w w2 → w3.ownsMap Tryz.prog 9 RR bm n ((DB (delR L s)).put (kOf t) (.held (regVal (getR L s)))) → w2.grownBy w3 (some bm) →
          StAt U F R w3 g bm (putR (delR L s) t (getR L s)) E ∧ Turn U w w3) := Lib.hid (fun w2 w3 n ⟨h1, h2, h3⟩ ho hg =>
        ⟨h1.link ho hg (.inr (by have := h.len; omega)) hn h2 hld.2.1 hld.2.2.1 (fun q hq => hld.2.2.2 q ((del_sub s L).subset hq)), h3.trans (Turn.of_grown hg) (fun i _ e => by rw [e]; exact h.ubm)⟩)
      have hl5 := h.len
      clear e1 hh h hn hmem hld
      generalize getR L s = e at HF HP HQ ⊢
      go_enter Tryz.func21, Tryz.ntmps21
      go_wp2_with (first
        | (go_at_call 43; refine HF.out.mono ?_; rintro e w1 ⟨rfl, rfl⟩)
        | (go_at_call 47; refine (HN.out _).mono ?_; rintro e w1 ⟨rfl, rfl⟩)
        | (at_delete; refine wpList_delete_own _ rfl _ _ 44 9 rfl 57 law Tryz.underlying44 RR bm L.length (DB L) rfl hown (.string s) (kOf s) rfl (keyOf_string_mk Tryz.underlying9 hs) ?_; intro w2 ho2 ht2; have hk2 := Lib.hid (HP.out _ _ ho2 ht2.grown); clear ho2 ht2; have c02 := hk2.out.1.c0; have hown2 := hk2.out.1.own)
        | (at_mapUpdate; refine wpList_mapUpdate_own _ rfl _ _ _ 44 rfl 9 57 law Tryz.underlying44 RR bm (delR L s).length (DB (delR L s)) rfl hown2 (by unfold maxLen; omega) (.string t) (.pointer (some ⟨e, 0, none⟩)) (kOf t) rfl rfl (keyOf_string_mk Tryz.underlying9 ht) (.held (.pointer (some ⟨e, 0, none⟩))) [] rfl ?_; intro w5 ho5 hg5))
      go_ret
      exact ⟨rfl, fun h => absurd rfl h, fun _ => HQ.out _ _ _ hk2.out ho5 hg5⟩
/-- What Alias answers. -/
def alE (L : List Ent) (t s : ByteArray) : Int := if hasB L s then (if nameB t then (if t = s then 12 else if fullB L t then 9 else 0) else 6) else 6
set_option maxHeartbeats 400000 in
/-- Alias. -/
theorem cAlias (t s : ByteArray) (ht : t.size ≤ maxLen) (hs : s.size ≤ maxLen) (h : StAt U F R w g bm L E) :
    Calls Tryz.prog 22 #[.pointer (some ⟨g, 0, none⟩), .string t, .string s] w fun x w' => x = .returned (.int .i64 (alE L t s)) ∧ (alE L t s ≠ 0 → w = w') ∧ (alE L t s = 0 → StAt U F R w' g bm (putR L t (getR L s)) E ∧ Turn U w w') := by
  have HF := Lib.hid (cFind s hs h)
  have HN := Lib.hid (fun w => cName t ht w)
  have HU := Lib.hid (cFull t ht h)
  unfold fdV fdE at HF
  cases hh : hasB L s
  · have e1 : alE L t s = 6 := by unfold alE; rw [hh]; rfl
    rw [e1]
    rw [hh, lk_no hh, if_neg (by decide)] at HF
    clear e1 hh h
    go_enter Tryz.func22, Tryz.ntmps22
    go_wp2_with (go_at_call 43; refine HF.out.mono ?_; rintro e w1 ⟨rfl, rfl⟩)
    go_ret
    exact ⟨rfl, fun _ => rfl, fun h => by cases h⟩
  · rw [hh, lk_has hh, if_pos rfl] at HF
    cases hn : nameB t
    · have e1 : alE L t s = 6 := by unfold alE; rw [hh, hn]; rfl
      rw [e1]
      rw [hn] at HN
      clear e1 hh h hn
      go_enter Tryz.func22, Tryz.ntmps22
      go_wp2_with (first
        | (go_at_call 43; refine HF.out.mono ?_; rintro e w1 ⟨rfl, rfl⟩)
        | (go_at_call 47; refine (HN.out _).mono ?_; rintro e w1 ⟨rfl, rfl⟩))
      go_ret
      exact ⟨rfl, fun _ => rfl, fun h => by cases h⟩
    · rw [hn] at HN
      by_cases hts : t = s
      · have e1 : alE L t s = 12 := by unfold alE; rw [hh, hn, if_pos rfl, if_pos rfl, if_pos hts]
        rw [e1]
        clear e1 hh h hn HU
        subst hts
        go_enter Tryz.func22, Tryz.ntmps22
        go_wp2_with (first
          | (go_at_call 43; refine HF.out.mono ?_; rintro e w1 ⟨rfl, rfl⟩)
          | (go_at_call 47; refine (HN.out _).mono ?_; rintro e w1 ⟨rfl, rfl⟩))
        go_ret
        exact ⟨rfl, fun _ => rfl, fun h => by cases h⟩
      · have hB : (t.toList == s.toList) = false := by rw [eq_toList]; exact decide_eq_false hts
        cases hf : fullB L t
        · have e1 : alE L t s = 0 := by unfold alE; rw [hh, hn, if_pos rfl, if_pos rfl, if_neg hts, hf]; rfl
          rw [e1]
          rw [hf] at HU
          have c0 := h.c0
          have hown := h.own
          have hld := h.lead ⟨_, mem_get hh, rfl⟩
          have hl5 := h.len
          have hroom : hasB L t = true ∨ L.length < 500 := by
            unfold fullB at hf
            cases hx : hasB L t
            · rw [hx] at hf
              have : ¬ 500 ≤ L.length := by simpa using hf
              exact .inr (by omega)
            · exact .inl rfl
          have HQ : Hid (∀ (w3 : World) (n : Nat), w3.ownsMap Tryz.prog 9 RR bm n ((DB L).put (kOf t) (.held (regVal (getR L s)))) → w.grownBy w3 (some bm) → StAt U F R w3 g bm (putR L t (getR L s)) E ∧ Turn U w w3) := Lib.hid (fun w3 n ho hg =>
            ⟨h.link ho hg hroom hn hld.1 hld.2.1 hld.2.2.1 hld.2.2.2, (Turn.of_grown hg).mono (fun i e => by rw [e]; exact h.ubm)⟩)
          clear e1 hh h hn hld hroom hf hts
          generalize getR L s = e at HF HQ ⊢
          go_enter Tryz.func22, Tryz.ntmps22
          go_wp2_with (first
            | (go_at_call 43; refine HF.out.mono ?_; rintro e w1 ⟨rfl, rfl⟩)
            | (go_at_call 47; refine (HN.out _).mono ?_; rintro e w1 ⟨rfl, rfl⟩)
            | (go_at_call 48; refine HU.out.mono ?_; rintro e w1 ⟨rfl, rfl⟩)
            | (at_mapUpdate; refine wpList_mapUpdate_own _ rfl _ _ _ 44 rfl 9 57 law Tryz.underlying44 RR bm L.length (DB L) rfl hown (by unfold maxLen; omega) (.string t) (.pointer (some ⟨e, 0, none⟩)) (kOf t) rfl rfl (keyOf_string_mk Tryz.underlying9 ht) (.held (.pointer (some ⟨e, 0, none⟩))) [] rfl ?_; intro w5 ho5 hg5))
          go_ret
          exact ⟨rfl, fun h => absurd rfl h, fun _ => HQ.out _ _ ho5 hg5⟩
        · have e1 : alE L t s = 9 := by unfold alE; rw [hh, hn, if_pos rfl, if_pos rfl, if_neg hts, hf]; rfl
          rw [e1]
          rw [hf] at HU
          clear e1 hh h hn hf hts
          go_enter Tryz.func22, Tryz.ntmps22
          go_wp2_with (first
            | (go_at_call 43; refine HF.out.mono ?_; rintro e w1 ⟨rfl, rfl⟩)
            | (go_at_call 47; refine (HN.out _).mono ?_; rintro e w1 ⟨rfl, rfl⟩)
            | (go_at_call 48; refine HU.out.mono ?_; rintro e w1 ⟨rfl, rfl⟩))
          go_ret
          exact ⟨rfl, fun _ => rfl, fun h => by cases h⟩
/-- Remove. -/
theorem cRemove (s : ByteArray) (hs : s.size ≤ maxLen) (h : StAt U F R w g bm L E) :
    Calls Tryz.prog 20 #[.pointer (some ⟨g, 0, none⟩), .string s] w fun x w' => x = .returned (.int .i64 (erI (nameB s) 6)) ∧ (nameB s = false → w = w') ∧ (nameB s = true → StAt U F R w' g bm (delR L s) E ∧ Turn U w w') := by
  have HC := Lib.hid (cCheck true s hs g bm w h.c0)
  unfold chk at HC
  rw [if_pos rfl] at HC
  cases hn : nameB s
  · rw [hn] at HC
    clear h hn
    go_enter Tryz.func20, Tryz.ntmps20
    go_wp2_with (go_at_call 40; refine HC.out.mono ?_; rintro e w1 ⟨rfl, rfl⟩; unfold erI)
    go_ret
    exact ⟨rfl, fun _ => rfl, fun h => by cases h⟩
  · rw [hn] at HC
    have c0 := h.c0
    have hown := h.own
    have HQ : Hid (∀ (w3 : World) (n : Nat), w3.ownsMap Tryz.prog 9 RR bm n ((DB L).del (kOf s)) → w.grownBy w3 (some bm) → StAt U F R w3 g bm (delR L s) E ∧ Turn U w w3) := Lib.hid (fun w3 n ho hg =>
      ⟨h.unlink ho hg, (Turn.of_grown hg).mono (fun i e => by rw [e]; exact h.ubm)⟩)
    clear h hn
    go_enter Tryz.func20, Tryz.ntmps20
    go_wp2_with (first
      | (go_at_call 40; refine HC.out.mono ?_; rintro e w1 ⟨rfl, rfl⟩; unfold erI)
      | (at_delete; refine wpList_delete_own _ rfl _ _ 44 9 rfl 57 law Tryz.underlying44 RR bm L.length (DB L) rfl hown (.string s) (kOf s) rfl (keyOf_string_mk Tryz.underlying9 hs) ?_; intro w2 ho2 ht2))
    go_ret
    exact ⟨rfl, fun h => (by cases h), fun _ => HQ.out _ _ ho2 ht2.grown⟩
end
end Go.Proofs.YtbedddgfijpbcaaGreat
