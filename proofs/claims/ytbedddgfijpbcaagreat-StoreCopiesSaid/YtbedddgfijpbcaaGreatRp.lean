/- Walk: Append, of the document's store. Append, of the document's store, whole. -/
import Derived.Test.YtbedddgfijpbcaaGreatRm
namespace Go.Proofs.YtbedddgfijpbcaaGreat
open Go.RowKit Go.Maps Go.WideMaps

section
variable {U K : Nat → Prop} {w w' : World} {x : Nat} {M : List Ent} {es : List En}
theorem text_le {t : ByteArray} (h : textB t = true) : t.size ≤ 2000 := by
  unfold textB at h
  simp only [Bool.and_eq_true, decide_eq_true_eq] at h
  exact h.1
/-- Where nothing is there to append to, Append is Define. -/
theorem ap_df {E : Nat → En} {s t : ByteArray} (hx : textB t = true) (h : apT M E s t = t) : apE M E s t = dfE M s t := by
  have hle : ¬ 2000 < t.size := by have := text_le hx; omega
  unfold apE dfE
  simp only [h, if_neg hle]
set_option maxRecDepth 100000 in
set_option maxHeartbeats 1000000 in
/-- Append, where no string is. -/
theorem nAppNo (s t : ByteArray) (hs : s.size ≤ maxLen) (ht : t.size ≤ maxLen) (hz : es.length ≤ 1000000) (h : RSt U K w x M es) (hx : textB t = true) (hno : nameB s = false ∨ hasB M s = false ∨ (hasB M s = true ∧ ∃ ls, eF es (getR M s) = .mac ls)) :
    Calls Tryz.prog 25 #[.pointer (some ⟨x, 0, none⟩), .string s, .string t] w fun e w' => e = .returned (.int .i64 (dfE M s t)) ∧ RTo U K w w' x (dnM (textB t && nameB s) M es s) (dnZ (textB t && nameB s) M es s (.str t)) := by
  have HZ := Lib.hid (nNo h)
  have HT := nText t ht w
  rw [hx] at HT
  have HT := Lib.hid HT
  have HN := Lib.hid (nName s hs w)
  have HD := Lib.hid (nDefine s t hs ht hz h)
  have hF := nFind s h
  unfold fdI at hF
  have hgood := h.srt.2.2
  have hat := fun hh => h.at_ (s := s) hh
  have hq := fun (k : Nat) hk => h.q2 k hk
  clear h
  generalize dfE M s t = pe at HD ⊢
  generalize dnM (textB t && nameB s) M es s = M2 at HD ⊢
  generalize dnZ (textB t && nameB s) M es s (.str t) = Z2 at HD ⊢
  cases hn : nameB s
  · rw [hn] at HN
    clear hno hF
    go_enter Tryz.func25, Tryz.ntmps25
    go_wp2_with (first
      | (go_at_call 38; refine HZ.out.mono ?_; rintro e w1 ⟨rfl, rfl⟩)
      | (go_at_call 50; refine HT.out.mono ?_; rintro e w1 ⟨rfl, rfl⟩)
      | (go_at_call 51; refine HN.out.mono ?_; rintro e w1 ⟨rfl, rfl⟩)
      | (go_at_call 24; refine HD.out.mono ?_; rintro e w1 ⟨rfl, hr⟩))
    go_ret
    exact ⟨rfl, hr⟩
  · rw [hn] at HN
    cases hh : hasB M s
    · rw [hh] at hF
      simp only [Bool.false_eq_true, if_false] at hF
      have HF := Lib.hid hF
      clear hno hF
      go_enter Tryz.func25, Tryz.ntmps25
      go_wp2_with (first
        | (go_at_call 38; refine HZ.out.mono ?_; rintro e w1 ⟨rfl, rfl⟩)
        | (go_at_call 50; refine HT.out.mono ?_; rintro e w1 ⟨rfl, rfl⟩)
        | (go_at_call 51; refine HN.out.mono ?_; rintro e w1 ⟨rfl, rfl⟩)
        | (go_at_call 53; refine HF.out.mono ?_; rintro e w1 ⟨rfl, rfl⟩)
        | (go_at_call 24; refine HD.out.mono ?_; rintro e w1 ⟨rfl, hr⟩))
      go_ret
      exact ⟨rfl, hr⟩
    · obtain ⟨ls, hls⟩ : ∃ ls, eF es (getR M s) = .mac ls := by
        rcases hno with h | h | h
        · rw [hn] at h; cases h
        · rw [hh] at h; cases h
        · exact h.2
      rw [hh] at hF
      simp only [if_true] at hF
      have hat := hat hh
      obtain ⟨k, hk⟩ : ∃ k : Nat, getR M s = k := ⟨_, rfl⟩
      simp only [hk] at hF hat hls
      have hat : @LT.lt Nat _ k es.length := hat
      obtain ⟨g, c, v, c2, hc, d0, _, _, _⟩ := hq k hat
      rw [hls] at d0
      simp only [En.kind] at d0
      have HF := Lib.hid hF
      clear hno hF hq hls hk
      go_enter Tryz.func25, Tryz.ntmps25
      go_wp2_with (first
        | (go_at_call 38; refine HZ.out.mono ?_; rintro e w1 ⟨rfl, rfl⟩)
        | (go_at_call 50; refine HT.out.mono ?_; rintro e w1 ⟨rfl, rfl⟩)
        | (go_at_call 51; refine HN.out.mono ?_; rintro e w1 ⟨rfl, rfl⟩)
        | (go_at_call 53; refine HF.out.mono ?_; rintro e w1 ⟨rfl, rfl⟩)
        | (go_at_call 24; refine HD.out.mono ?_; rintro e w1 ⟨rfl, hr⟩))
      go_ret
      exact ⟨rfl, hr⟩
/-- An entry is written anew, behind new blocks. -/
theorem RSt.setAt {wa : World} {g c k : Nat} {A : Option Addr} {n c' : Nat} {en : En} (h : RSt U K w x M es) (hk : k < es.length) (hc : w.cell? ⟨x, 2, none⟩ = some (.slice (some ⟨g, 0, none⟩) es.length c)) (hb : Below w.heap.size w wa)
    (hl : LnsAt (fun i => K i ∨ w.heap.size ≤ i ∧ i < wa.heap.size) wa (.slice A n c') (enL en)) (ho : okE en) :
    (∃ v0 v1, wa.cell? ⟨g, k * 2, none⟩ = some v0 ∧ (wa.setCell ⟨g, k * 2, none⟩ (.int .i64 en.kind)).cell? ⟨g, k * 2 + 1, none⟩ = some v1) ∧ wa.frozen? ⟨g, k * 2, none⟩ = false ∧ (wa.setCell ⟨g, k * 2, none⟩ (.int .i64 en.kind)).frozen? ⟨g, k * 2 + 1, none⟩ = false ∧
      RTo U K w ((wa.setCell ⟨g, k * 2, none⟩ (.int .i64 en.kind)).setCell ⟨g, k * 2 + 1, none⟩ (.slice A n c')) x M (es.set k en) := by
  have hs := h.since hb
  obtain ⟨zs, nv, ev, h1, rfl⟩ := hs
  rw [List.length_map] at hk hc
  have hev : ev = .slice (some ⟨g, 0, none⟩) zs.length c := by
    have := h1.q2
    rw [(hb.cell (p := ⟨x, 2, none⟩) (cell_lt hc)).trans hc] at this
    injection this with this
    exact this.symm
  subst hev
  obtain ⟨hset, hturn⟩ := h1.setE hk hl ho
  obtain ⟨d0, d1⟩ := h1.en (List.getElem?_eq_getElem hk)
  obtain ⟨cur, hbk⟩ : ∃ cur, Blk wa g 62 cur := by
    rcases h1.ens.2 with ⟨h5, _⟩ | ⟨g', c, cur, h5, _, h6, _⟩
    · cases h5
    · injection h5 with h5
      injection h5 with h5
      injection h5 with h5
      subst h5
      exact ⟨cur, h6⟩
  exact ⟨⟨_, _, d0, (cell_set hbk _ (by omega)).trans d1⟩, hbk.frozen _, (blk_set hbk (o := k * 2) (.int .i64 en.kind)).frozen _, RTo.since hb ⟨U, _, ⟨_, nv, _, hset, by rw [List.map_set]⟩, hturn, fun _ h => .inl h, fun _ h => .inl h⟩⟩
theorem RSt.blkE {g c k : Nat} (h : RSt U K w x M es) (hk : k < es.length) (hc : w.cell? ⟨x, 2, none⟩ = some (.slice (some ⟨g, 0, none⟩) es.length c)) : ∃ cur, Blk w g 62 cur := by
  obtain ⟨zs, nv, ev, h1, rfl⟩ := h
  rw [List.length_map] at hk hc
  have hev : ev = .slice (some ⟨g, 0, none⟩) zs.length c := by
    have := h1.q2
    rw [hc] at this
    injection this with this
    exact this.symm
  subst hev
  rcases h1.ens.2 with ⟨h5, _⟩ | ⟨g', c, cur, h5, _, h6, _⟩
  · cases h5
  · injection h5 with h5
    injection h5 with h5
    injection h5 with h5
    subst h5
    exact ⟨cur, h6⟩
set_option maxRecDepth 100000 in
set_option maxHeartbeats 1000000 in
/-- Append, onto a string. -/
theorem nAppStr (s t t0 : ByteArray) (hs : s.size ≤ maxLen) (ht : t.size ≤ maxLen) (h : RSt U K w x M es) (hx : textB t = true) (hn : nameB s = true) (hh : hasB M s = true) (he : eF es (getR M s) = .str t0) :
    Calls Tryz.prog 25 #[.pointer (some ⟨x, 0, none⟩), .string s, .string t] w fun e w' => e = .returned (.int .i64 (if 2000 < (t0 ++ t).size then 2 else 0)) ∧ RTo U K w w' x M (if 2000 < (t0 ++ t).size then es else es.set (getR M s) (.str (t0 ++ t))) := by
  have HZ := Lib.hid (nNo h)
  have HT := nText t ht w
  rw [hx] at HT
  have HT := Lib.hid HT
  have HN := nName s hs w
  rw [hn] at HN
  have HN := Lib.hid HN
  have hF := nFind s h
  unfold fdI at hF
  rw [if_pos hh] at hF
  have hat := h.at_ hh
  obtain ⟨k, hk⟩ : ∃ k : Nat, getR M s = k := ⟨_, rfl⟩
  simp only [hk] at hF hat he ⊢
  have hat : @LT.lt Nat _ k es.length := hat
  obtain ⟨g, c, v, c2, hc, d0, d1, hl, ho⟩ := h.q2 k hat
  rw [he] at d0 hl ho
  simp only [En.kind] at d0
  obtain ⟨g2, o2, cc, rfl, hcc, e0⟩ := one_ln hl
  have HF := Lib.hid hF
  have HS := Lib.hid (RTo.same h (Below.refl _ w))
  have hk0 : ¬ ((k : Nat) : Int) < 0 := by omega
  have hcat : ¬ 9223372036854775807 < t0.size + t.size := by
    have := text_le hx
    have h2 : t0.size ≤ 2000 := ho
    omega
  by_cases hbig : 2000 < (t0 ++ t).size
  · simp only [if_pos hbig]
    have hbI : (2000 : Int) < ((t0.size : Nat) : Int) + ((t.size : Nat) : Int) := by rw [ByteArray.size_append] at hbig; omega
    clear h hF hl
    go_enter Tryz.func25, Tryz.ntmps25
    go_wp2_with (first
      | (go_at_call 38; refine HZ.out.mono ?_; rintro e w1 ⟨rfl, rfl⟩)
      | (go_at_call 50; refine HT.out.mono ?_; rintro e w1 ⟨rfl, rfl⟩)
      | (go_at_call 51; refine HN.out.mono ?_; rintro e w1 ⟨rfl, rfl⟩)
      | (go_at_call 53; refine HF.out.mono ?_; rintro e w1 ⟨rfl, rfl⟩))
    go_ret
    exact ⟨rfl, HS.out⟩
  · simp only [if_neg hbig]
    have hbI : ¬ (2000 : Int) < ((t0.size : Nat) : Int) + ((t.size : Nat) : Int) := by rw [ByteArray.size_append] at hbig; omega
    have hb0 : Below w.heap.size w (w.alloc (.cells #[.string (t0 ++ t), .bool false, .int .i64 0, .int .i64 0, .slice none 0 0] 39)) := (Below.refl _ _).alloc (Nat.le_refl _) _
    have hbk := Blk.new w 39 #[.string (t0 ++ t), .bool false, .int .i64 0, .int .i64 0, .slice none 0 0]
    have hln : LnsAt (fun i => K i ∨ w.heap.size ≤ i ∧ i < (w.alloc (.cells #[.string (t0 ++ t), .bool false, .int .i64 0, .int .i64 0, .slice none 0 0] 39)).heap.size) (w.alloc (.cells #[.string (t0 ++ t), .bool false, .int .i64 0, .int .i64 0, .slice none 0 0] 39)) (.slice (some ⟨w.heap.size, 0, none⟩) 1 1) (enL (.str (t0 ++ t))) :=
      ⟨_, 1, rfl, Nat.le_refl _, by unfold maxLen; omega, fun _ => ⟨_, 0, rfl, .inr ⟨Nat.le_refl _, hbk.lt⟩, fun i l hi => by
        have hi0 : i = 0 := by
          have := (List.getElem?_eq_some_iff.1 hi).1
          change i < 1 at this
          omega
        subst hi0
        have hl : tLn (t0 ++ t) = l := by
          change some (tLn (t0 ++ t)) = some l at hi
          injection hi
        subst hl
        exact ⟨hbk.cell 0, hbk.cell 1, hbk.cell 2, hbk.cell 3, ⟨_, hbk.cell 4, RowAt.nil⟩, by show (t0 ++ t).size ≤ 140737488351232; omega, Nat.zero_le _⟩⟩⟩
    obtain ⟨⟨v0, v1, b0, b1⟩, f0, f1, hR⟩ := h.setAt (en := .str (t0 ++ t)) hat c2 hb0 hln (by show (t0 ++ t).size ≤ 2000; omega)
    simp only [En.kind] at b1 f1 hR
    have HR := Lib.hid hR
    obtain ⟨cur, hbg⟩ := h.blkE hat c2
    have B0 : ∀ V : ByteArray, (w.alloc (.cells #[.string V, .bool false, .int .i64 0, .int .i64 0, .slice none 0 0] 39)).cell? ⟨g, k * 2, none⟩ = some (.int .i64 1) := fun V => ((hbg.alloc _).cell _).trans ((hbg.cell _).symm.trans d0)
    have F0 : ∀ V : ByteArray, (w.alloc (.cells #[.string V, .bool false, .int .i64 0, .int .i64 0, .slice none 0 0] 39)).frozen? ⟨g, k * 2, none⟩ = false := fun V => (hbg.alloc _).frozen _
    have B1 : ∀ V : ByteArray, ((w.alloc (.cells #[.string V, .bool false, .int .i64 0, .int .i64 0, .slice none 0 0] 39)).setCell ⟨g, k * 2, none⟩ (.int .i64 1)).cell? ⟨g, k * 2 + 1, none⟩ = some (.slice (some ⟨g2, o2, none⟩) 1 cc) := fun V => (cell_set (hbg.alloc _) _ (by omega)).trans (((hbg.alloc _).cell _).trans ((hbg.cell _).symm.trans d1))
    have F1 : ∀ V : ByteArray, ((w.alloc (.cells #[.string V, .bool false, .int .i64 0, .int .i64 0, .slice none 0 0] 39)).setCell ⟨g, k * 2, none⟩ (.int .i64 1)).frozen? ⟨g, k * 2 + 1, none⟩ = false := fun V => (blk_set (hbg.alloc _) (o := k * 2) (.int .i64 1)).frozen _
    clear hF hl hR hln hbk hb0 h b0 b1 f0 f1 hbg
    go_enter Tryz.func25, Tryz.ntmps25
    go_wp2_with (first
      | (go_at_call 38; refine HZ.out.mono ?_; rintro e w1 ⟨rfl, rfl⟩)
      | (go_at_call 50; refine HT.out.mono ?_; rintro e w1 ⟨rfl, rfl⟩)
      | (go_at_call 51; refine HN.out.mono ?_; rintro e w1 ⟨rfl, rfl⟩)
      | (go_at_call 53; refine HF.out.mono ?_; rintro e w1 ⟨rfl, rfl⟩))
    go_ret
    exact ⟨rfl, HR.out⟩
end
end Go.Proofs.YtbedddgfijpbcaaGreat
namespace Go.Proofs.YtbedddgfijpbcaaGreat
open Go.RowKit Go.Maps Go.WideMaps

section
variable {U K : Nat → Prop} {w w' : World} {x : Nat} {M : List Ent} {es : List En}
theorem nAppBad (s t : ByteArray) (ht : t.size ≤ maxLen) (h : RSt U K w x M es) (hx : textB t = false) :
    Calls Tryz.prog 25 #[.pointer (some ⟨x, 0, none⟩), .string s, .string t] w fun e w' => e = .returned (.int .i64 1) ∧ RTo U K w w' x M es := by
  have HZ := Lib.hid (nNo h)
  have HT := nText t ht w
  rw [hx] at HT
  have HT := Lib.hid HT
  have HS := Lib.hid (RTo.same h (Below.refl _ w))
  clear h
  go_enter Tryz.func25, Tryz.ntmps25
  go_wp2_with (first
    | (go_at_call 38; refine HZ.out.mono ?_; rintro e w1 ⟨rfl, rfl⟩)
    | (go_at_call 50; refine HT.out.mono ?_; rintro e w1 ⟨rfl, rfl⟩))
  go_ret
  exact ⟨rfl, HS.out⟩
/-- Append. -/
theorem nAppend (s t : ByteArray) (hs : s.size ≤ maxLen) (ht : t.size ≤ maxLen) (hz : es.length ≤ 1000000) (h : RSt U K w x M es) :
    Calls Tryz.prog 25 #[.pointer (some ⟨x, 0, none⟩), .string s, .string t] w fun e w' => e = .returned (.int .i64 (apE M (eF es) s t)) ∧
      RTo U K w w' x (dnM (textB t && nameB s && decide ((apT M (eF es) s t).size ≤ 2000)) M es s) (dnZ (textB t && nameB s && decide ((apT M (eF es) s t).size ≤ 2000)) M es s (.str (apT M (eF es) s t))) := by
  cases hx : textB t
  · have e1 : apE M (eF es) s t = 1 := by unfold apE chk; rw [hx]; rfl
    rw [e1]
    exact nAppBad s t ht h hx
  · by_cases hc : hasB M s = true ∧ ∃ t0, eF es (getR M s) = .str t0
    · obtain ⟨hh, t0, he⟩ := hc
      have hn : nameB s = true := hasB_name h.srt.2.2 hh
      have e1 : apT M (eF es) s t = t0 ++ t := by unfold apT; rw [if_pos hh, he]
      have e2 : apE M (eF es) s t = if 2000 < (t0 ++ t).size then 2 else 0 := by
        unfold apE chk putE fullB
        rw [hx, hn, e1, hh]
        rfl
      rw [e2, e1, hn]
      refine (nAppStr s t t0 hs ht h hx hn hh he).mono fun e w' ⟨q1, q2⟩ => ⟨q1, ?_⟩
      unfold dnM dnZ ptM ptZ
      by_cases hb : 2000 < (t0 ++ t).size
      · rw [if_pos hb] at q2
        rw [decide_eq_false (by omega : ¬ (t0 ++ t).size ≤ 2000)]
        exact q2
      · rw [if_neg hb] at q2
        rw [decide_eq_true (by omega : (t0 ++ t).size ≤ 2000), if_pos hh, if_pos hh]
        exact q2
    · have e1 : apT M (eF es) s t = t := by
        unfold apT
        cases hh : hasB M s
        · rfl
        · cases he : eF es (getR M s) with
          | str t0 => exact absurd ⟨hh, t0, he⟩ hc
          | mac ls => rfl
      rw [ap_df hx e1, e1, decide_eq_true (text_le hx), Bool.and_true, ← hx]
      refine nAppNo s t hs ht hz h hx ?_
      cases hh : hasB M s
      · exact .inr (.inl rfl)
      · cases he : eF es (getR M s) with
        | str t0 => exact absurd ⟨hh, t0, he⟩ hc
        | mac ls => exact .inr (.inr ⟨rfl, ls, rfl⟩)
end
end Go.Proofs.YtbedddgfijpbcaaGreat
