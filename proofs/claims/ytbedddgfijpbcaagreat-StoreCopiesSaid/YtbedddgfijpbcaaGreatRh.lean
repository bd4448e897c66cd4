/- Walks: Define, Text, Length, of the document's store. Walks: Text, size, Length, of the document's store. Walks: Length, Names, of the document's store. -/
import Derived.Test.YtbedddgfijpbcaaGreatRf
import Derived.Test.YtbedddgfijpbcaaGreatQl
namespace Go.Proofs.YtbedddgfijpbcaaGreat
open Go.RowKit Go.Maps Go.WideMaps

section
variable {U K : Nat → Prop} {w w' : World} {x : Nat} {M : List Ent} {es : List En}
theorem RSt.wideK {K2 : Nat → Prop} (h : RSt U K w x M es) (hK : ∀ i, K i → K2 i) (h1 : ∀ i, U i → ¬ K2 i) (h2 : ∀ i, K2 i → i < w.heap.size) : RSt U K2 w x M es := by
  obtain ⟨zs, nv, ev, h, e⟩ := h
  exact ⟨zs, nv, ev, ⟨h.blk, h.nms, h.ens, fun z hz => ⟨(h.lns z hz).1.stay (fun _ _ _ => rfl) hK, (h.lns z hz).2⟩, h.srt, h.len, h.good, h.ats, h.ux, h.ue, fun g hg => hK g (h.kn g hg), h1, h.ul, h2⟩, e⟩
theorem RSt.sets (h : RSt U K w x M es) : (∀ i, U i → ¬ K i) ∧ (∀ i, U i → i < w.heap.size) ∧ (∀ i, K i → i < w.heap.size) := by
  obtain ⟨zs, nv, ev, h, e⟩ := h
  exact ⟨h.uk, h.ul, h.kl⟩
/-- With what is new since w besides. -/
theorem RSt.since {w1 : World} (h : RSt U K w x M es) (hb : Below w.heap.size w w1) : RSt U (fun i => K i ∨ w.heap.size ≤ i ∧ i < w1.heap.size) w1 x M es :=
  (h.below hb).wideK (fun i hi => .inl hi) (fun i hu hk => by
    rcases hk with hk | hk
    · exact h.sets.1 i hu hk
    · have := h.sets.2.1 i hu
      omega) (fun i hk => by
    rcases hk with hk | hk
    · exact Nat.lt_of_lt_of_le (h.sets.2.2 i hk) hb.size
    · exact hk.2)
theorem RTo.since {w1 : World} (hb : Below w.heap.size w w1) (h : RTo U (fun i => K i ∨ w.heap.size ≤ i ∧ i < w1.heap.size) w1 w' x M es) : RTo U K w w' x M es :=
  RTo.trans (Turn.of_below hb) (fun _ h => .inl h) (fun _i h => h.imp id (fun h => h.1)) h
theorem ptI_E (M : List Ent) (s : ByteArray) : ptI M s = putE M s := by
  unfold ptI putE fullB
  cases hasB M s
  · by_cases h : M.length < 500
    · have : ¬ 500 ≤ M.length := by omega
      simp [h, this]
    · have : 500 ≤ M.length := by omega
      simp [h, this]
  · simp
/-- Put is done, or not. -/
def dnM (ok : Bool) (M : List Ent) (es : List En) (s : ByteArray) : List Ent := if ok then ptM M es s else M
def dnZ (ok : Bool) (M : List Ent) (es : List En) (s : ByteArray) (en : En) : List En := if ok then ptZ M es s en else es
set_option maxRecDepth 100000 in
set_option maxHeartbeats 1000000 in
/-- Define. -/
theorem nDefine (s t : ByteArray) (hs : s.size ≤ maxLen) (ht : t.size ≤ maxLen) (hz : es.length ≤ 1000000) (h : RSt U K w x M es) :
    Calls Tryz.prog 24 #[.pointer (some ⟨x, 0, none⟩), .string s, .string t] w fun e w' => e = .returned (.int .i64 (dfE M s t)) ∧ RTo U K w w' x (dnM (textB t && nameB s) M es s) (dnZ (textB t && nameB s) M es s (.str t)) := by
  have HZ := Lib.hid (nNo h)
  have HT := Lib.hid (nText t ht w)
  have HN := Lib.hid (nName s hs w)
  have HS := Lib.hid (RTo.same h (Below.refl _ w))
  unfold dfE chk dnM dnZ
  cases hx : textB t
  · rw [hx] at HT
    simp only [Bool.false_and, Bool.false_eq_true, if_false]
    rw [if_neg (by decide)]
    clear h
    go_enter Tryz.func24, Tryz.ntmps24
    go_wp2_with (first
      | (go_at_call 38; refine HZ.out.mono ?_; rintro e w1 ⟨rfl, rfl⟩)
      | (go_at_call 50; refine HT.out.mono ?_; rintro e w1 ⟨rfl, rfl⟩))
    go_ret
    exact ⟨rfl, HS.out⟩
  · rw [hx] at HT
    cases hn : nameB s
    · rw [hn] at HN
      simp only [Bool.and_false, Bool.false_eq_true, if_false, if_true]
      rw [show erI false 6 = (6 : Int) from rfl, if_neg (by decide)]
      clear h
      go_enter Tryz.func24, Tryz.ntmps24
      go_wp2_with (first
        | (go_at_call 38; refine HZ.out.mono ?_; rintro e w1 ⟨rfl, rfl⟩)
        | (go_at_call 50; refine HT.out.mono ?_; rintro e w1 ⟨rfl, rfl⟩)
        | (go_at_call 51; refine HN.out.mono ?_; rintro e w1 ⟨rfl, rfl⟩))
      go_ret
      exact ⟨rfl, HS.out⟩
    · rw [hn] at HN
      simp only [Bool.and_true, if_true]
      rw [show erI true 6 = (0 : Int) from rfl, if_pos rfl, ← ptI_E]
      have hts : t.size ≤ 2000 := by
        unfold textB at hx
        simp only [Bool.and_eq_true, decide_eq_true_eq] at hx
        exact hx.1
      have HP : Hid (∀ w1 : World, Below w.heap.size w w1 → Blk w1 w.heap.size 39 #[.string t, .bool false, .int .i64 0, .int .i64 0, .slice none 0 0] → Calls Tryz.prog 52 #[.pointer (some ⟨x, 0, none⟩), .string s, .agg #[.int .i64 1, .slice (some ⟨w.heap.size, 0, none⟩) 1 1]] w1 fun r w' => r = .returned (.int .i64 (ptI M s)) ∧ RTo U K w w' x (ptM M es s) (ptZ M es s (.str t))) := Lib.hid (fun w1 hb hbk => by
        have hln : LnsAt (fun i => K i ∨ w.heap.size ≤ i ∧ i < w1.heap.size) w1 (.slice (some ⟨w.heap.size, 0, none⟩) 1 1) (enL (.str t)) :=
          ⟨_, 1, rfl, Nat.le_refl _, by unfold maxLen; omega, fun _ => ⟨_, 0, rfl, .inr ⟨Nat.le_refl _, hbk.lt⟩, fun i l hi => by
            have hi0 : i = 0 := by
              have := (List.getElem?_eq_some_iff.1 hi).1
              change i < 1 at this
              omega
            subst hi0
            have hl : tLn t = l := by
              change some (tLn t) = some l at hi
              injection hi
            subst hl
            exact ⟨hbk.cell 0, hbk.cell 1, hbk.cell 2, hbk.cell 3, ⟨_, hbk.cell 4, RowAt.nil⟩, Nat.le_trans hts (by decide), Nat.zero_le _⟩⟩⟩
        exact (nPut s (.str t) _ 1 1 hn hz hln hts (h.since hb)).mono fun r w' ⟨e1, e2⟩ => ⟨e1, RTo.since hb e2⟩)
      clear h
      generalize ptI M s = pe at HP ⊢
      go_enter Tryz.func24, Tryz.ntmps24
      go_wp2_with (first
        | (go_at_call 38; refine HZ.out.mono ?_; rintro e w1 ⟨rfl, rfl⟩)
        | (go_at_call 50; refine HT.out.mono ?_; rintro e w1 ⟨rfl, rfl⟩)
        | (go_at_call 51; refine HN.out.mono ?_; rintro e w1 ⟨rfl, rfl⟩)
        | (go_at_call 52; refine (HP.out _ ((Below.refl _ _).alloc (Nat.le_refl _) _) (Blk.new _ _ _)).mono ?_; rintro e w1 ⟨rfl, hq⟩))
      go_ret
      exact ⟨rfl, hq⟩
end
end Go.Proofs.YtbedddgfijpbcaaGreat
namespace Go.Proofs.YtbedddgfijpbcaaGreat
open Go.RowKit Go.Maps Go.WideMaps

section
variable {U K : Nat → Prop} {w w' : World} {x : Nat} {M : List Ent} {es : List En}
theorem one_ln {v : Value} {t : ByteArray} (h : LnsAt K w v (enL (.str t))) : ∃ g o c, v = .slice (some ⟨g, o, none⟩) 1 c ∧ 1 ≤ c ∧ w.cell? ⟨g, o, none⟩ = some (.string t) := by
  obtain ⟨A, c, rfl, h1, h2, h3⟩ := h
  obtain ⟨g, o, rfl, hk, hr⟩ := h3 (Nat.zero_lt_one)
  have := (hr 0 (tLn t) rfl).c0
  rw [Nat.zero_mul, Nat.add_zero] at this
  exact ⟨g, o, c, rfl, h1, this⟩
set_option maxHeartbeats 1000000 in
/-- Text. -/
theorem nTxt (s : ByteArray) (h : RSt U K w x M es) :
    Calls Tryz.prog 62 #[.pointer (some ⟨x, 0, none⟩), .string s] w fun e w' => e = .returned (txV M (eF es) s) ∧ w = w' := by
  have hT := nThere s h
  unfold fdE at hT
  unfold txV
  cases hh : hasB M s
  · rw [hh] at hT
    simp only [Bool.false_eq_true, if_false] at hT ⊢
    have HT := Lib.hid hT
    clear hT h
    go_enter Tryz.func62, Tryz.ntmps62
    go_wp2_with (go_at_call 56; refine HT.out.mono ?_; rintro e w1 ⟨rfl, rfl⟩)
    go_ret2
    exact ⟨rfl, rfl⟩
  · rw [hh] at hT
    simp only [if_true] at hT ⊢
    have HT := Lib.hid hT
    have hat := h.at_ hh
    obtain ⟨k, hk⟩ : ∃ k : Nat, getR M s = k := ⟨_, rfl⟩
    simp only [hk] at HT hat ⊢
    have hat : @LT.lt Nat _ k es.length := hat
    obtain ⟨g, c, v, c2, hc, d0, d1, hl, _⟩ := h.q2 k hat
    clear hT h hk hh
    generalize eF es k = en at *
    cases en with
    | str t =>
      obtain ⟨g2, o2, cc, rfl, hcc, e0⟩ := one_ln hl
      clear hl
      simp only [En.kind] at d0
      go_enter Tryz.func62, Tryz.ntmps62
      go_wp2_with (go_at_call 56; refine HT.out.mono ?_; rintro e w1 ⟨rfl, rfl⟩)
      go_ret2
      exact ⟨rfl, rfl⟩
    | mac ls =>
      clear hl
      simp only [En.kind] at d0
      go_enter Tryz.func62, Tryz.ntmps62
      go_wp2_with (go_at_call 56; refine HT.out.mono ?_; rintro e w1 ⟨rfl, rfl⟩)
      go_ret2
      exact ⟨rfl, rfl⟩
set_option maxHeartbeats 1000000 in
/-- size. -/
theorem nSize (en : En) (v : Value) (h : LnsAt K w v (enL en)) (_hK : ∀ i, K i → i < w.heap.size) :
    Calls Tryz.prog 58 #[.agg #[.int .i64 en.kind, v]] w fun e w' => e = .returned (.int .i64 (en.size : Nat)) ∧ Below w.heap.size w w' := by
  cases en with
  | str t =>
    obtain ⟨g2, o2, cc, rfl, hcc, e0⟩ := one_ln (h.stay (Kept.of_all ((Below.refl w.heap.size w).alloc (Nat.le_refl _) (.cells #[.int .i64 1, v] 62))) (fun _ h => h))
    have hblk := Blk.new w 62 #[.int .i64 1, .slice (some ⟨g2, o2, none⟩) 1 cc]
    have p0 := hblk.cell 0
    have p1 := hblk.cell 1
    simp only [List.getElem?_toArray, List.getElem?_cons_zero, List.getElem?_cons_succ] at p0 p1
    have hb := (Below.refl w.heap.size w).alloc (Nat.le_refl _) (.cells #[.int .i64 1, .slice (some ⟨g2, o2, none⟩) 1 cc] 62)
    have HB := Lib.hid hb
    clear h hblk hb
    simp only [En.kind, En.size]
    go_enter Tryz.func58, Tryz.ntmps58
    go_wp2_with fail
    go_ret
    exact ⟨rfl, HB.out⟩
  | mac ls =>
    obtain ⟨A, c, rfl, h1, _, _⟩ := h
    have hblk := Blk.new w 62 #[.int .i64 2, .slice A ls.length c]
    have p0 := hblk.cell 0
    have p1 := hblk.cell 1
    simp only [List.getElem?_toArray, List.getElem?_cons_zero, List.getElem?_cons_succ] at p0 p1
    have hb := (Below.refl w.heap.size w).alloc (Nat.le_refl _) (.cells #[.int .i64 2, .slice A ls.length c] 62)
    have HB := Lib.hid hb
    simp only [En.kind, En.size, enL] at *
    clear hblk hb
    go_enter Tryz.func58, Tryz.ntmps58
    go_wp2_with fail
    go_ret
    exact ⟨rfl, HB.out⟩
end
end Go.Proofs.YtbedddgfijpbcaaGreat
namespace Go.Proofs.YtbedddgfijpbcaaGreat
open Go.RowKit Go.Maps Go.WideMaps

section
variable {U K : Nat → Prop} {w w' : World} {x : Nat} {M : List Ent} {es : List En}
set_option maxHeartbeats 1000000 in
/-- Length. -/
theorem nLength (s : ByteArray) (h : RSt U K w x M es) :
    Calls Tryz.prog 66 #[.pointer (some ⟨x, 0, none⟩), .string s] w fun e w' => e = .returned (.tuple #[.int .i64 (lnI M (eF es) s), .int .i64 (fdE M s)]) ∧ Below w.heap.size w w' := by
  have hT := nThere s h
  unfold fdE at hT ⊢
  unfold lnI
  cases hh : hasB M s
  · rw [hh] at hT
    simp only [Bool.false_eq_true, if_false] at hT ⊢
    have HT := Lib.hid hT
    clear hT h
    go_enter Tryz.func66, Tryz.ntmps66
    go_wp2_with (go_at_call 56; refine HT.out.mono ?_; rintro e w1 ⟨rfl, rfl⟩)
    go_ret2
    exact ⟨rfl, Below.refl _ _⟩
  · rw [hh] at hT
    simp only [if_true] at hT ⊢
    have HT := Lib.hid hT
    have hat := h.at_ hh
    obtain ⟨k, hk⟩ : ∃ k : Nat, getR M s = k := ⟨_, rfl⟩
    simp only [hk] at HT hat ⊢
    have hat : @LT.lt Nat _ k es.length := hat
    obtain ⟨g, c, v, c2, hc, d0, d1, hl, _⟩ := h.q2 k hat
    have HZ := Lib.hid (nSize _ v hl h.sets.2.2)
    obtain ⟨A, nn, cc, rfl⟩ : ∃ A n c, v = .slice A n c := by
      obtain ⟨A, c, e, _⟩ := hl
      exact ⟨A, _, c, e⟩
    clear hT h hk hh hl
    generalize eF es k = en at *
    go_enter Tryz.func66, Tryz.ntmps66
    go_wp2_with (first
      | (go_at_call 56; refine HT.out.mono ?_; rintro e w1 ⟨rfl, rfl⟩)
      | (go_at_call 58; refine HZ.out.mono ?_; rintro e w2 ⟨rfl, hb2⟩))
    go_ret2
    exact ⟨rfl, hb2⟩
theorem str_info : (Tryz.prog.info? 9).map (fun i => (i.zero, i.size, i.bytes)) = some (some (.string ⟨#[]⟩), 1, 16) := by kernel_rfl
def nms (L : List Ent) : List Value := L.map fun p => .string p.1
theorem nms_take {L : List Ent} {k : Nat} {p : Ent} (h : L[k]? = some p) : nms (L.take (k + 1)) = nms (L.take k) ++ [.string p.1] := by
  obtain ⟨hk, e⟩ := List.getElem?_eq_some_iff.1 h
  unfold nms
  rw [List.take_succ_eq_append_getElem hk, List.map_append, e]
  rfl
set_option maxRecDepth 100000 in
set_option maxHeartbeats 1000000 in
/-- Names. -/
theorem nNames (h : RSt U K w x M es) :
    Calls Tryz.prog 33 #[.pointer (some ⟨x, 0, none⟩)] w fun e w' => ∃ u, e = .returned u ∧ w'.ownsRow w.heap.size 9 1 u M.length (M.map fun p => .string p.1) ∧ Below w.heap.size w w' := by
  obtain ⟨i0, hi0, hz0, hz1, hz2⟩ := info_parts str_info
  have HZ := Lib.hid (nNo h)
  obtain ⟨zs, nv, ev, h, rfl⟩ := h
  obtain ⟨A, cap, rfl, hcap, hA⟩ := own_form2 h.nms
  have hl := h.len
  have H := Lib.hid h
  have HA := Lib.hid hA
  clear h hA
  go_enter Tryz.func33, Tryz.ntmps33
  go_wp2_with (go_at_call 38; refine HZ.out.mono ?_; rintro e w1 ⟨rfl, rfl⟩)
  go_loopw [3, 4] (fun v3 v4 wr => ∃ k : Nat, k ≤ M.length ∧ v4 = .int .i64 k ∧ wr.ownsRow w.heap.size 9 1 v3 k (nms (M.take k)) ∧ Below w.heap.size w wr) (fun _ v4 _ => M.length - (intOf v4).toNat)
  case atStart => exact ⟨0, Nat.zero_le _, rfl, World.ownsRow_nil _ _ _ _, Below.refl _ _⟩
  case round =>
    obtain ⟨k, hk, rfl, hown, hb⟩ := hrel
    have HR := Lib.hid (H.out.below hb)
    have c1 := HR.out.q1
    by_cases hlt : k < M.length
    · obtain ⟨g, rfl⟩ := HA.out (by omega)
      have hp := List.getElem?_eq_getElem hlt
      generalize M[k] = p at hp
      obtain ⟨hc, _⟩ := HR.out.nm hp
      have HPk := Lib.hid hp
      obtain ⟨A3, c3, rfl, _, _⟩ := own_form2 hown
      have HO := Lib.hid hown
      clear hp hown
      have HO2 := Lib.hid (HO.out.alloc (.cells #[.string p.1] 9))
      go_wp2_with (at_builtin
                   refine wpList_append_own_at _ rfl (.tmp 16) (.tmp 25) _ rfl w.heap.size 9 i0 _ 1 16 Tryz.underlying53 hi0 hz0 hz1 hz2 rfl (by omega) _ k _ rfl HO2.out ⟨wr.heap.size, 0, none⟩ 1 1 [.string p.1] rfl
                     rfl (cell_one_new wr _ 9) (by intro u hu; rw [List.mem_singleton] at hu; subst hu; rfl) (by unfold maxLen; omega) (by omega) (by have := hb.size; simp; omega) ?_
                   intro v1 w2 hown1 hg1 _ hat1
                   have HO3 := Lib.hid hown1
                   have hb2 : Below w.heap.size w w2 := (hb.alloc hb.size (.cells #[.string p.1] 9)).grown hg1 (by have := hb.size; simp; omega) (fun q hq => own_ge HO.out hq)
                   clear hown1)
      go_round
      case rel => exact ⟨k + 1, by omega, by go_num, by rw [nms_take HPk.out]; exact HO3.out, hb2⟩
      case measure => simp [intOf]; omega
    · have e : k = M.length := by omega
      subst e
      have HO := Lib.hid hown
      clear hown
      go_wp2
      go_ret
      exact ⟨_, rfl, by have := HO.out; rwa [List.take_length] at this, hb⟩
end
end Go.Proofs.YtbedddgfijpbcaaGreat
