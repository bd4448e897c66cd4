/- Walk: a deed is done as the document says. -/
import Derived.Test.YtbedddgfijpbcaaGreatTa
import Derived.Test.YtbedddgfijpbcaaGreatTd
import Derived.Test.YtbedddgfijpbcaaGreatTe
namespace Go.Proofs.YtbedddgfijpbcaaGreat
open Go.RowKit Go.Maps Go.WideMaps

section
variable {U K : Nat → Prop} {w w' : World} {x : Nat} {M : List Ent} {es : List En} {s t : ByteArray} {ls : List Ln} {en : En}
theorem dn_doc {ok : Bool} {e : Int} (h1 : ok = true → e = putE M s) (h2 : ok = false → e ≠ 0) (h : RTo U K w w' x (dnM ok M es s) (dnZ ok M es s en)) : RTo U K w w' x (docM M es (orSame e (.put s en))) (docZ M es (orSame e (.put s en))) := by
  unfold orSame
  cases ok
  · rw [if_neg (h2 rfl)]; exact h
  · by_cases he : e = 0
    · rw [if_pos he]; exact h
    · rw [if_neg he]
      have hf : fullB M s = true := by
        cases hf : fullB M s
        · exact absurd (by rw [h1 rfl]; unfold putE; rw [hf]; rfl) he
        · rfl
      unfold fullB at hf
      simp only [Bool.and_eq_true, Bool.not_eq_true', decide_eq_true_eq] at hf
      unfold dnM dnZ ptM ptZ at h
      simp only [hf.1, Bool.false_eq_true, if_false, if_true, if_neg (show ¬ M.length < 500 by omega)] at h
      exact h
theorem dn_df (h : RTo U K w w' x (dnM (textB t && nameB s) M es s) (dnZ (textB t && nameB s) M es s (.str t))) : RTo U K w w' x (docM M es (orSame (dfE M s t) (.put s (.str t)))) (docZ M es (orSame (dfE M s t) (.put s (.str t)))) := by
  refine dn_doc (fun h => ?_) (fun h => ?_) h
  · rw [Bool.and_eq_true] at h
    unfold dfE chk; rw [h.1, h.2]; rfl
  · unfold dfE chk
    cases hx : textB t
    · simp
    · cases hn : nameB s
      · simp [erI]
      · rw [hx, hn] at h; cases h
theorem dn_mc (h : RTo U K w w' x (dnM (lnsB ls && nameB s && decide (ls.length ≤ 2000)) M es s) (dnZ (lnsB ls && nameB s && decide (ls.length ≤ 2000)) M es s (.mac ls))) : RTo U K w w' x (docM M es (orSame (mcE M s ls) (.put s (.mac ls)))) (docZ M es (orSame (mcE M s ls) (.put s (.mac ls)))) := by
  refine dn_doc (fun h => ?_) (fun h => ?_) h
  · simp only [Bool.and_eq_true, decide_eq_true_eq] at h
    unfold mcE chk; rw [h.1.1, h.1.2, if_pos (by rfl), if_neg (by omega)]
  · unfold mcE chk
    cases hx : lnsB ls
    · simp
    · cases hn : nameB s
      · simp [erI]
      · rw [hx, hn] at h
        have : ¬ ls.length ≤ 2000 := by simpa using h
        rw [if_pos (by rfl), if_pos (by omega)]; decide
theorem dn_ad {l2 : List Ln} (e2 : l2 = adL M (eF es) s ls) (h : RTo U K w w' x (dnM (lnsB ls && nameB s && decide (l2.length ≤ 2000)) M es s) (dnZ (lnsB ls && nameB s && decide (l2.length ≤ 2000)) M es s (.mac l2))) : RTo U K w w' x (docM M es (orSame (adE M (eF es) s ls) (.put s (.mac l2)))) (docZ M es (orSame (adE M (eF es) s ls) (.put s (.mac l2)))) := by
  subst e2
  refine dn_doc (fun h => ?_) (fun h => ?_) h
  · simp only [Bool.and_eq_true, decide_eq_true_eq] at h
    unfold adE chk; rw [h.1.1, h.1.2, if_pos (by rfl), if_neg (by omega)]
  · unfold adE chk
    cases hx : lnsB ls
    · simp
    · cases hn : nameB s
      · simp [erI]
      · rw [hx, hn] at h
        have : ¬ (adL M (eF es) s ls).length ≤ 2000 := by simpa using h
        rw [if_pos (by rfl), if_pos (by omega)]; decide
theorem dn_ap {t2 : ByteArray} (e2 : t2 = apT M (eF es) s t) (h : RTo U K w w' x (dnM (textB t && nameB s && decide (t2.size ≤ 2000)) M es s) (dnZ (textB t && nameB s && decide (t2.size ≤ 2000)) M es s (.str t2))) : RTo U K w w' x (docM M es (orSame (apE M (eF es) s t) (.put s (.str t2)))) (docZ M es (orSame (apE M (eF es) s t) (.put s (.str t2)))) := by
  subst e2
  refine dn_doc (fun h => ?_) (fun h => ?_) h
  · simp only [Bool.and_eq_true, decide_eq_true_eq] at h
    unfold apE chk; rw [h.1.1, h.1.2, if_pos (by rfl), if_neg (by omega)]
  · unfold apE chk
    cases hx : textB t
    · simp
    · cases hn : nameB s
      · simp [erI]
      · rw [hx, hn] at h
        have : ¬ (apT M (eF es) s t).size ≤ 2000 := by simpa using h
        rw [if_pos (by rfl), if_pos (by omega)]; decide
theorem dn_del (h : RTo U K w w' x (if nameB s then delR M s else M) es) : RTo U K w w' x (docM M es (orSame (erI (nameB s) 6) (.del s))) (docZ M es (orSame (erI (nameB s) 6) (.del s))) := by
  unfold orSame
  cases hn : nameB s
  · rw [hn] at h; rw [if_neg (by decide)]; exact h
  · rw [hn] at h; rw [if_pos (by rfl)]; exact h
theorem dn_ren (h : RTo U K w w' x (if rnE M s t = 0 then putR (delR M s) t (getR M s) else M) es) : RTo U K w w' x (docM M es (orSame (rnE M s t) (.ren s t))) (docZ M es (orSame (rnE M s t) (.ren s t))) := by
  unfold orSame
  by_cases e : rnE M s t = 0
  · rw [if_pos e] at h; rw [if_pos e]; exact h
  · rw [if_neg e] at h; rw [if_neg e]; exact h
theorem dn_ali (h : RTo U K w w' x (if alE M t s = 0 then putR M t (getR M s) else M) es) : RTo U K w w' x (docM M es (orSame (alE M t s) (.ali t s))) (docZ M es (orSame (alE M t s) (.ali t s))) := by
  unfold orSame
  by_cases e : alE M t s = 0
  · rw [if_pos e] at h; rw [if_pos e]; exact h
  · rw [if_neg e] at h; rw [if_neg e]; exact h
theorem dn_fd (h : RTo U K w w' x M (if hasB M s then es.set (getR M s) en else es)) : RTo U K w w' x (docM M es (orSame (fdE M s) (.put s en))) (docZ M es (orSame (fdE M s) (.put s en))) := by
  unfold orSame fdE
  cases hh : hasB M s
  · rw [hh] at h; exact h
  · rw [hh] at h
    simp only [if_true] at h ⊢
    show RTo U K w w' x (ptM M es s) (ptZ M es s en)
    unfold ptM ptZ
    rw [if_pos hh, if_pos hh]; exact h
set_option maxHeartbeats 2000000 in
/-- told, deed 0. -/
theorem nTold0 (d : Dd) (K0 : Nat → Prop) (A : Option Addr) (n c : Nat) (_hv : LnsAt K0 w (.slice A n c) d.lines) (_hK : ∀ k, K0 k → k < w.heap.size) (hz1 : d.name.size ≤ 140737488351232) (_hz2 : d.other.size ≤ 140737488351232) (hz3 : d.text.size ≤ 140737488351232) (_hz4 : d.lines.length ≤ 6000)
    (_hwa : -9223372036854775808 ≤ d.a ∧ d.a ≤ 9223372036854775807) (_hwb : -9223372036854775808 ≤ d.b ∧ d.b ≤ 9223372036854775807) (hz : es.length ≤ 1000000) (h : RSt U K w x M es) :
    Calls Tryz.prog 10 #[.pointer (some ⟨x, 0, none⟩), .agg #[.int .i64 0, .string d.name, .string d.other, .string d.text, .slice A n c, .int .i64 d.a, .int .i64 d.b]] w fun r w' => r = .returned (.int .i64 (dfE M d.name d.text)) ∧ RTo U K w w' x (docM M es (orSame (dfE M d.name d.text) (.put d.name (.str d.text)))) (docZ M es (orSame (dfE M d.name d.text) (.put d.name (.str d.text)))) := by
  have hb : Below w.heap.size w (w.alloc (.cells #[.int .i64 0, .string d.name, .string d.other, .string d.text, .slice A n c, .int .i64 d.a, .int .i64 d.b] 33)) := (Below.refl _ _).alloc (Nat.le_refl _) _
  have hbk := Blk.new w 33 #[.int .i64 0, .string d.name, .string d.other, .string d.text, .slice A n c, .int .i64 d.a, .int .i64 d.b]
  have h1 := h.below hb
  have x0 := hbk.cell 0
  have x1 := hbk.cell 1
  have x2 := hbk.cell 2
  have x3 := hbk.cell 3
  have x4 := hbk.cell 4
  have x5 := hbk.cell 5
  have x6 := hbk.cell 6
  simp only [List.getElem?_toArray, List.getElem?_cons_zero, List.getElem?_cons_succ] at x0 x1 x2 x3 x4 x5 x6
  have HC : Hid (Calls Tryz.prog 24 #[.pointer (some ⟨x, 0, none⟩), .string d.name, .string d.text] (w.alloc (.cells #[.int .i64 0, .string d.name, .string d.other, .string d.text, .slice A n c, .int .i64 d.a, .int .i64 d.b] 33)) fun r w' => r = .returned (.int .i64 (dfE M d.name d.text)) ∧ RTo U K w w' x (docM M es (orSame (dfE M d.name d.text) (.put d.name (.str d.text)))) (docZ M es (orSame (dfE M d.name d.text) (.put d.name (.str d.text))))) := Lib.hid ((nDefine d.name d.text (by unfold maxLen; omega) (by unfold maxLen; omega) hz h1).mono fun x w' ⟨q1, q2⟩ => ⟨q1, RTo.from_ hb (dn_df q2)⟩)
  clear h h1 hbk hb
  generalize docZ M es (orSame (dfE M d.name d.text) (.put d.name (.str d.text))) = cz at HC ⊢
  generalize docM M es (orSame (dfE M d.name d.text) (.put d.name (.str d.text))) = cg at HC ⊢
  generalize dfE M d.name d.text = pe at HC ⊢
  go_enter Tryz.func10, Tryz.ntmps10
  go_wp2_with (go_at_call 24; refine HC.out.mono ?_; rintro e w1 ⟨rfl, hd⟩)
  go_ret
  exact ⟨rfl, hd⟩
set_option maxHeartbeats 2000000 in
/-- told, deed 1. -/
theorem nTold1 (d : Dd) (K0 : Nat → Prop) (A : Option Addr) (n c : Nat) (_hv : LnsAt K0 w (.slice A n c) d.lines) (_hK : ∀ k, K0 k → k < w.heap.size) (hz1 : d.name.size ≤ 140737488351232) (_hz2 : d.other.size ≤ 140737488351232) (hz3 : d.text.size ≤ 140737488351232) (_hz4 : d.lines.length ≤ 6000)
    (_hwa : -9223372036854775808 ≤ d.a ∧ d.a ≤ 9223372036854775807) (_hwb : -9223372036854775808 ≤ d.b ∧ d.b ≤ 9223372036854775807) (hz : es.length ≤ 1000000) (h : RSt U K w x M es) :
    Calls Tryz.prog 10 #[.pointer (some ⟨x, 0, none⟩), .agg #[.int .i64 1, .string d.name, .string d.other, .string d.text, .slice A n c, .int .i64 d.a, .int .i64 d.b]] w fun r w' => r = .returned (.int .i64 (apE M (eF es) d.name d.text)) ∧ RTo U K w w' x (docM M es (orSame (apE M (eF es) d.name d.text) (.put d.name (.str (apT M (eF es) d.name d.text))))) (docZ M es (orSame (apE M (eF es) d.name d.text) (.put d.name (.str (apT M (eF es) d.name d.text))))) := by
  have hb : Below w.heap.size w (w.alloc (.cells #[.int .i64 1, .string d.name, .string d.other, .string d.text, .slice A n c, .int .i64 d.a, .int .i64 d.b] 33)) := (Below.refl _ _).alloc (Nat.le_refl _) _
  have hbk := Blk.new w 33 #[.int .i64 1, .string d.name, .string d.other, .string d.text, .slice A n c, .int .i64 d.a, .int .i64 d.b]
  have h1 := h.below hb
  have x0 := hbk.cell 0
  have x1 := hbk.cell 1
  have x2 := hbk.cell 2
  have x3 := hbk.cell 3
  have x4 := hbk.cell 4
  have x5 := hbk.cell 5
  have x6 := hbk.cell 6
  simp only [List.getElem?_toArray, List.getElem?_cons_zero, List.getElem?_cons_succ] at x0 x1 x2 x3 x4 x5 x6
  have HC : Hid (Calls Tryz.prog 25 #[.pointer (some ⟨x, 0, none⟩), .string d.name, .string d.text] (w.alloc (.cells #[.int .i64 1, .string d.name, .string d.other, .string d.text, .slice A n c, .int .i64 d.a, .int .i64 d.b] 33)) fun r w' => r = .returned (.int .i64 (apE M (eF es) d.name d.text)) ∧ RTo U K w w' x (docM M es (orSame (apE M (eF es) d.name d.text) (.put d.name (.str (apT M (eF es) d.name d.text))))) (docZ M es (orSame (apE M (eF es) d.name d.text) (.put d.name (.str (apT M (eF es) d.name d.text)))))) := Lib.hid ((nAppend d.name d.text (by unfold maxLen; omega) (by unfold maxLen; omega) hz h1).mono fun x w' ⟨q1, q2⟩ => ⟨q1, RTo.from_ hb (dn_ap rfl q2)⟩)
  clear h h1 hbk hb
  generalize docZ M es (orSame (apE M (eF es) d.name d.text) (.put d.name (.str (apT M (eF es) d.name d.text)))) = cz at HC ⊢
  generalize docM M es (orSame (apE M (eF es) d.name d.text) (.put d.name (.str (apT M (eF es) d.name d.text)))) = cg at HC ⊢
  generalize apE M (eF es) d.name d.text = pe at HC ⊢
  go_enter Tryz.func10, Tryz.ntmps10
  go_wp2_with (go_at_call 25; refine HC.out.mono ?_; rintro e w1 ⟨rfl, hd⟩)
  go_ret
  exact ⟨rfl, hd⟩
set_option maxHeartbeats 2000000 in
/-- told, deed 2. -/
theorem nTold2 (d : Dd) (K0 : Nat → Prop) (A : Option Addr) (n c : Nat) (hv : LnsAt K0 w (.slice A n c) d.lines) (hK : ∀ k, K0 k → k < w.heap.size) (hz1 : d.name.size ≤ 140737488351232) (_hz2 : d.other.size ≤ 140737488351232) (_hz3 : d.text.size ≤ 140737488351232) (hz4 : d.lines.length ≤ 6000)
    (_hwa : -9223372036854775808 ≤ d.a ∧ d.a ≤ 9223372036854775807) (_hwb : -9223372036854775808 ≤ d.b ∧ d.b ≤ 9223372036854775807) (hz : es.length ≤ 1000000) (h : RSt U K w x M es) :
    Calls Tryz.prog 10 #[.pointer (some ⟨x, 0, none⟩), .agg #[.int .i64 2, .string d.name, .string d.other, .string d.text, .slice A n c, .int .i64 d.a, .int .i64 d.b]] w fun r w' => r = .returned (.int .i64 (mcE M d.name d.lines)) ∧ RTo U K w w' x (docM M es (orSame (mcE M d.name d.lines) (.put d.name (.mac d.lines)))) (docZ M es (orSame (mcE M d.name d.lines) (.put d.name (.mac d.lines)))) := by
  have hb : Below w.heap.size w (w.alloc (.cells #[.int .i64 2, .string d.name, .string d.other, .string d.text, .slice A n c, .int .i64 d.a, .int .i64 d.b] 33)) := (Below.refl _ _).alloc (Nat.le_refl _) _
  have hbk := Blk.new w 33 #[.int .i64 2, .string d.name, .string d.other, .string d.text, .slice A n c, .int .i64 d.a, .int .i64 d.b]
  have h1 := h.below hb
  have hv1 := hv.stay (K' := K0) (Kept.of_below hb hK) (fun _ h => h)
  have hK1 := fun (k : Nat) (hk : K0 k) => Nat.lt_of_lt_of_le (hK k hk) hb.size
  have x0 := hbk.cell 0
  have x1 := hbk.cell 1
  have x2 := hbk.cell 2
  have x3 := hbk.cell 3
  have x4 := hbk.cell 4
  have x5 := hbk.cell 5
  have x6 := hbk.cell 6
  simp only [List.getElem?_toArray, List.getElem?_cons_zero, List.getElem?_cons_succ] at x0 x1 x2 x3 x4 x5 x6
  have HC : Hid (Calls Tryz.prog 26 #[.pointer (some ⟨x, 0, none⟩), .string d.name, .slice A n c] (w.alloc (.cells #[.int .i64 2, .string d.name, .string d.other, .string d.text, .slice A n c, .int .i64 d.a, .int .i64 d.b] 33)) fun r w' => r = .returned (.int .i64 (mcE M d.name d.lines)) ∧ RTo U K w w' x (docM M es (orSame (mcE M d.name d.lines) (.put d.name (.mac d.lines)))) (docZ M es (orSame (mcE M d.name d.lines) (.put d.name (.mac d.lines))))) := Lib.hid ((nMacro d.name K0 (.slice A n c) d.lines (by unfold maxLen; omega) (by omega) hv1 hK1 hz h1).mono fun x w' ⟨q1, q2⟩ => ⟨q1, RTo.from_ hb (dn_mc q2)⟩)
  clear hv hK hv1 hK1 h h1 hbk hb
  generalize docZ M es (orSame (mcE M d.name d.lines) (.put d.name (.mac d.lines))) = cz at HC ⊢
  generalize docM M es (orSame (mcE M d.name d.lines) (.put d.name (.mac d.lines))) = cg at HC ⊢
  generalize mcE M d.name d.lines = pe at HC ⊢
  go_enter Tryz.func10, Tryz.ntmps10
  go_wp2_with (go_at_call 26; refine HC.out.mono ?_; rintro e w1 ⟨rfl, hd⟩)
  go_ret
  exact ⟨rfl, hd⟩
set_option maxHeartbeats 2000000 in
/-- told, deed 3. -/
theorem nTold3 (d : Dd) (K0 : Nat → Prop) (A : Option Addr) (n c : Nat) (hv : LnsAt K0 w (.slice A n c) d.lines) (hK : ∀ k, K0 k → k < w.heap.size) (hz1 : d.name.size ≤ 140737488351232) (_hz2 : d.other.size ≤ 140737488351232) (_hz3 : d.text.size ≤ 140737488351232) (hz4 : d.lines.length ≤ 6000)
    (_hwa : -9223372036854775808 ≤ d.a ∧ d.a ≤ 9223372036854775807) (_hwb : -9223372036854775808 ≤ d.b ∧ d.b ≤ 9223372036854775807) (hz : es.length ≤ 1000000) (h : RSt U K w x M es) :
    Calls Tryz.prog 10 #[.pointer (some ⟨x, 0, none⟩), .agg #[.int .i64 3, .string d.name, .string d.other, .string d.text, .slice A n c, .int .i64 d.a, .int .i64 d.b]] w fun r w' => r = .returned (.int .i64 (adE M (eF es) d.name d.lines)) ∧ RTo U K w w' x (docM M es (orSame (adE M (eF es) d.name d.lines) (.put d.name (.mac (adL M (eF es) d.name d.lines))))) (docZ M es (orSame (adE M (eF es) d.name d.lines) (.put d.name (.mac (adL M (eF es) d.name d.lines))))) := by
  have hb : Below w.heap.size w (w.alloc (.cells #[.int .i64 3, .string d.name, .string d.other, .string d.text, .slice A n c, .int .i64 d.a, .int .i64 d.b] 33)) := (Below.refl _ _).alloc (Nat.le_refl _) _
  have hbk := Blk.new w 33 #[.int .i64 3, .string d.name, .string d.other, .string d.text, .slice A n c, .int .i64 d.a, .int .i64 d.b]
  have h1 := h.below hb
  have hv1 := hv.stay (K' := K0) (Kept.of_below hb hK) (fun _ h => h)
  have hK1 := fun (k : Nat) (hk : K0 k) => Nat.lt_of_lt_of_le (hK k hk) hb.size
  have x0 := hbk.cell 0
  have x1 := hbk.cell 1
  have x2 := hbk.cell 2
  have x3 := hbk.cell 3
  have x4 := hbk.cell 4
  have x5 := hbk.cell 5
  have x6 := hbk.cell 6
  simp only [List.getElem?_toArray, List.getElem?_cons_zero, List.getElem?_cons_succ] at x0 x1 x2 x3 x4 x5 x6
  have HC : Hid (Calls Tryz.prog 27 #[.pointer (some ⟨x, 0, none⟩), .string d.name, .slice A n c] (w.alloc (.cells #[.int .i64 3, .string d.name, .string d.other, .string d.text, .slice A n c, .int .i64 d.a, .int .i64 d.b] 33)) fun r w' => r = .returned (.int .i64 (adE M (eF es) d.name d.lines)) ∧ RTo U K w w' x (docM M es (orSame (adE M (eF es) d.name d.lines) (.put d.name (.mac (adL M (eF es) d.name d.lines))))) (docZ M es (orSame (adE M (eF es) d.name d.lines) (.put d.name (.mac (adL M (eF es) d.name d.lines)))))) := Lib.hid ((nAdd d.name K0 (.slice A n c) d.lines (by unfold maxLen; omega) hz4 hv1 hK1 hz h1).mono fun x w' ⟨q1, q2⟩ => ⟨q1, RTo.from_ hb (dn_ad rfl q2)⟩)
  clear hv hK hv1 hK1 h h1 hbk hb
  generalize docZ M es (orSame (adE M (eF es) d.name d.lines) (.put d.name (.mac (adL M (eF es) d.name d.lines)))) = cz at HC ⊢
  generalize docM M es (orSame (adE M (eF es) d.name d.lines) (.put d.name (.mac (adL M (eF es) d.name d.lines)))) = cg at HC ⊢
  generalize adE M (eF es) d.name d.lines = pe at HC ⊢
  go_enter Tryz.func10, Tryz.ntmps10
  go_wp2_with (go_at_call 27; refine HC.out.mono ?_; rintro e w1 ⟨rfl, hd⟩)
  go_ret
  exact ⟨rfl, hd⟩
set_option maxHeartbeats 2000000 in
/-- told, deed 4. -/
theorem nTold4 (d : Dd) (K0 : Nat → Prop) (A : Option Addr) (n c : Nat) (_hv : LnsAt K0 w (.slice A n c) d.lines) (_hK : ∀ k, K0 k → k < w.heap.size) (hz1 : d.name.size ≤ 140737488351232) (_hz2 : d.other.size ≤ 140737488351232) (_hz3 : d.text.size ≤ 140737488351232) (_hz4 : d.lines.length ≤ 6000)
    (_hwa : -9223372036854775808 ≤ d.a ∧ d.a ≤ 9223372036854775807) (_hwb : -9223372036854775808 ≤ d.b ∧ d.b ≤ 9223372036854775807) (_hz : es.length ≤ 1000000) (h : RSt U K w x M es) :
    Calls Tryz.prog 10 #[.pointer (some ⟨x, 0, none⟩), .agg #[.int .i64 4, .string d.name, .string d.other, .string d.text, .slice A n c, .int .i64 d.a, .int .i64 d.b]] w fun r w' => r = .returned (.int .i64 (erI (nameB d.name) 6)) ∧ RTo U K w w' x (docM M es (orSame (erI (nameB d.name) 6) (.del d.name))) (docZ M es (orSame (erI (nameB d.name) 6) (.del d.name))) := by
  have hb : Below w.heap.size w (w.alloc (.cells #[.int .i64 4, .string d.name, .string d.other, .string d.text, .slice A n c, .int .i64 d.a, .int .i64 d.b] 33)) := (Below.refl _ _).alloc (Nat.le_refl _) _
  have hbk := Blk.new w 33 #[.int .i64 4, .string d.name, .string d.other, .string d.text, .slice A n c, .int .i64 d.a, .int .i64 d.b]
  have h1 := h.below hb
  have x0 := hbk.cell 0
  have x1 := hbk.cell 1
  have x2 := hbk.cell 2
  have x3 := hbk.cell 3
  have x4 := hbk.cell 4
  have x5 := hbk.cell 5
  have x6 := hbk.cell 6
  simp only [List.getElem?_toArray, List.getElem?_cons_zero, List.getElem?_cons_succ] at x0 x1 x2 x3 x4 x5 x6
  have HC : Hid (Calls Tryz.prog 28 #[.pointer (some ⟨x, 0, none⟩), .string d.name] (w.alloc (.cells #[.int .i64 4, .string d.name, .string d.other, .string d.text, .slice A n c, .int .i64 d.a, .int .i64 d.b] 33)) fun r w' => r = .returned (.int .i64 (erI (nameB d.name) 6)) ∧ RTo U K w w' x (docM M es (orSame (erI (nameB d.name) 6) (.del d.name))) (docZ M es (orSame (erI (nameB d.name) 6) (.del d.name)))) := Lib.hid ((nRemove d.name (by unfold maxLen; omega) h1).mono fun x w' ⟨q1, q2⟩ => ⟨q1, RTo.from_ hb (dn_del q2)⟩)
  clear h h1 hbk hb
  generalize docZ M es (orSame (erI (nameB d.name) 6) (.del d.name)) = cz at HC ⊢
  generalize docM M es (orSame (erI (nameB d.name) 6) (.del d.name)) = cg at HC ⊢
  generalize erI (nameB d.name) 6 = pe at HC ⊢
  go_enter Tryz.func10, Tryz.ntmps10
  go_wp2_with (go_at_call 28; refine HC.out.mono ?_; rintro e w1 ⟨rfl, hd⟩)
  go_ret
  exact ⟨rfl, hd⟩
set_option maxHeartbeats 2000000 in
/-- told, deed 5. -/
theorem nTold5 (d : Dd) (K0 : Nat → Prop) (A : Option Addr) (n c : Nat) (_hv : LnsAt K0 w (.slice A n c) d.lines) (_hK : ∀ k, K0 k → k < w.heap.size) (_hz1 : d.name.size ≤ 140737488351232) (hz2 : d.other.size ≤ 140737488351232) (_hz3 : d.text.size ≤ 140737488351232) (_hz4 : d.lines.length ≤ 6000)
    (_hwa : -9223372036854775808 ≤ d.a ∧ d.a ≤ 9223372036854775807) (_hwb : -9223372036854775808 ≤ d.b ∧ d.b ≤ 9223372036854775807) (_hz : es.length ≤ 1000000) (h : RSt U K w x M es) :
    Calls Tryz.prog 10 #[.pointer (some ⟨x, 0, none⟩), .agg #[.int .i64 5, .string d.name, .string d.other, .string d.text, .slice A n c, .int .i64 d.a, .int .i64 d.b]] w fun r w' => r = .returned (.int .i64 (rnE M d.name d.other)) ∧ RTo U K w w' x (docM M es (orSame (rnE M d.name d.other) (.ren d.name d.other))) (docZ M es (orSame (rnE M d.name d.other) (.ren d.name d.other))) := by
  have hb : Below w.heap.size w (w.alloc (.cells #[.int .i64 5, .string d.name, .string d.other, .string d.text, .slice A n c, .int .i64 d.a, .int .i64 d.b] 33)) := (Below.refl _ _).alloc (Nat.le_refl _) _
  have hbk := Blk.new w 33 #[.int .i64 5, .string d.name, .string d.other, .string d.text, .slice A n c, .int .i64 d.a, .int .i64 d.b]
  have h1 := h.below hb
  have x0 := hbk.cell 0
  have x1 := hbk.cell 1
  have x2 := hbk.cell 2
  have x3 := hbk.cell 3
  have x4 := hbk.cell 4
  have x5 := hbk.cell 5
  have x6 := hbk.cell 6
  simp only [List.getElem?_toArray, List.getElem?_cons_zero, List.getElem?_cons_succ] at x0 x1 x2 x3 x4 x5 x6
  have HC : Hid (Calls Tryz.prog 29 #[.pointer (some ⟨x, 0, none⟩), .string d.name, .string d.other] (w.alloc (.cells #[.int .i64 5, .string d.name, .string d.other, .string d.text, .slice A n c, .int .i64 d.a, .int .i64 d.b] 33)) fun r w' => r = .returned (.int .i64 (rnE M d.name d.other)) ∧ RTo U K w w' x (docM M es (orSame (rnE M d.name d.other) (.ren d.name d.other))) (docZ M es (orSame (rnE M d.name d.other) (.ren d.name d.other)))) := Lib.hid ((nRename d.name d.other (by unfold maxLen; omega) h1).mono fun x w' ⟨q1, q2⟩ => ⟨q1, RTo.from_ hb (dn_ren q2)⟩)
  clear h h1 hbk hb
  generalize docZ M es (orSame (rnE M d.name d.other) (.ren d.name d.other)) = cz at HC ⊢
  generalize docM M es (orSame (rnE M d.name d.other) (.ren d.name d.other)) = cg at HC ⊢
  generalize rnE M d.name d.other = pe at HC ⊢
  go_enter Tryz.func10, Tryz.ntmps10
  go_wp2_with (go_at_call 29; refine HC.out.mono ?_; rintro e w1 ⟨rfl, hd⟩)
  go_ret
  exact ⟨rfl, hd⟩
set_option maxHeartbeats 2000000 in
/-- told, deed 6. -/
theorem nTold6 (d : Dd) (K0 : Nat → Prop) (A : Option Addr) (n c : Nat) (_hv : LnsAt K0 w (.slice A n c) d.lines) (_hK : ∀ k, K0 k → k < w.heap.size) (hz1 : d.name.size ≤ 140737488351232) (_hz2 : d.other.size ≤ 140737488351232) (_hz3 : d.text.size ≤ 140737488351232) (_hz4 : d.lines.length ≤ 6000)
    (_hwa : -9223372036854775808 ≤ d.a ∧ d.a ≤ 9223372036854775807) (_hwb : -9223372036854775808 ≤ d.b ∧ d.b ≤ 9223372036854775807) (_hz : es.length ≤ 1000000) (h : RSt U K w x M es) :
    Calls Tryz.prog 10 #[.pointer (some ⟨x, 0, none⟩), .agg #[.int .i64 6, .string d.name, .string d.other, .string d.text, .slice A n c, .int .i64 d.a, .int .i64 d.b]] w fun r w' => r = .returned (.int .i64 (alE M d.name d.other)) ∧ RTo U K w w' x (docM M es (orSame (alE M d.name d.other) (.ali d.name d.other))) (docZ M es (orSame (alE M d.name d.other) (.ali d.name d.other))) := by
  have hb : Below w.heap.size w (w.alloc (.cells #[.int .i64 6, .string d.name, .string d.other, .string d.text, .slice A n c, .int .i64 d.a, .int .i64 d.b] 33)) := (Below.refl _ _).alloc (Nat.le_refl _) _
  have hbk := Blk.new w 33 #[.int .i64 6, .string d.name, .string d.other, .string d.text, .slice A n c, .int .i64 d.a, .int .i64 d.b]
  have h1 := h.below hb
  have x0 := hbk.cell 0
  have x1 := hbk.cell 1
  have x2 := hbk.cell 2
  have x3 := hbk.cell 3
  have x4 := hbk.cell 4
  have x5 := hbk.cell 5
  have x6 := hbk.cell 6
  simp only [List.getElem?_toArray, List.getElem?_cons_zero, List.getElem?_cons_succ] at x0 x1 x2 x3 x4 x5 x6
  have HC : Hid (Calls Tryz.prog 30 #[.pointer (some ⟨x, 0, none⟩), .string d.name, .string d.other] (w.alloc (.cells #[.int .i64 6, .string d.name, .string d.other, .string d.text, .slice A n c, .int .i64 d.a, .int .i64 d.b] 33)) fun r w' => r = .returned (.int .i64 (alE M d.name d.other)) ∧ RTo U K w w' x (docM M es (orSame (alE M d.name d.other) (.ali d.name d.other))) (docZ M es (orSame (alE M d.name d.other) (.ali d.name d.other)))) := Lib.hid ((nAlias d.name d.other (by unfold maxLen; omega) h1).mono fun x w' ⟨q1, q2⟩ => ⟨q1, RTo.from_ hb (dn_ali q2)⟩)
  clear h h1 hbk hb
  generalize docZ M es (orSame (alE M d.name d.other) (.ali d.name d.other)) = cz at HC ⊢
  generalize docM M es (orSame (alE M d.name d.other) (.ali d.name d.other)) = cg at HC ⊢
  generalize alE M d.name d.other = pe at HC ⊢
  go_enter Tryz.func10, Tryz.ntmps10
  go_wp2_with (go_at_call 30; refine HC.out.mono ?_; rintro e w1 ⟨rfl, hd⟩)
  go_ret
  exact ⟨rfl, hd⟩
set_option maxHeartbeats 2000000 in
/-- told, deed 7. -/
theorem nTold7 (d : Dd) (K0 : Nat → Prop) (A : Option Addr) (n c : Nat) (_hv : LnsAt K0 w (.slice A n c) d.lines) (_hK : ∀ k, K0 k → k < w.heap.size) (_hz1 : d.name.size ≤ 140737488351232) (_hz2 : d.other.size ≤ 140737488351232) (_hz3 : d.text.size ≤ 140737488351232) (_hz4 : d.lines.length ≤ 6000)
    (_hwa : -9223372036854775808 ≤ d.a ∧ d.a ≤ 9223372036854775807) (_hwb : -9223372036854775808 ≤ d.b ∧ d.b ≤ 9223372036854775807) (_hz : es.length ≤ 1000000) (h : RSt U K w x M es) :
    Calls Tryz.prog 10 #[.pointer (some ⟨x, 0, none⟩), .agg #[.int .i64 7, .string d.name, .string d.other, .string d.text, .slice A n c, .int .i64 d.a, .int .i64 d.b]] w fun r w' => r = .returned (.int .i64 (fdE M d.name)) ∧ RTo U K w w' x (docM M es (orSame (fdE M d.name) (.put d.name (chE (eF es (getR M d.name)))))) (docZ M es (orSame (fdE M d.name) (.put d.name (chE (eF es (getR M d.name)))))) := by
  have hb : Below w.heap.size w (w.alloc (.cells #[.int .i64 7, .string d.name, .string d.other, .string d.text, .slice A n c, .int .i64 d.a, .int .i64 d.b] 33)) := (Below.refl _ _).alloc (Nat.le_refl _) _
  have hbk := Blk.new w 33 #[.int .i64 7, .string d.name, .string d.other, .string d.text, .slice A n c, .int .i64 d.a, .int .i64 d.b]
  have h1 := h.below hb
  have x0 := hbk.cell 0
  have x1 := hbk.cell 1
  have x2 := hbk.cell 2
  have x3 := hbk.cell 3
  have x4 := hbk.cell 4
  have x5 := hbk.cell 5
  have x6 := hbk.cell 6
  simp only [List.getElem?_toArray, List.getElem?_cons_zero, List.getElem?_cons_succ] at x0 x1 x2 x3 x4 x5 x6
  have HC : Hid (Calls Tryz.prog 31 #[.pointer (some ⟨x, 0, none⟩), .string d.name] (w.alloc (.cells #[.int .i64 7, .string d.name, .string d.other, .string d.text, .slice A n c, .int .i64 d.a, .int .i64 d.b] 33)) fun r w' => r = .returned (.int .i64 (fdE M d.name)) ∧ RTo U K w w' x (docM M es (orSame (fdE M d.name) (.put d.name (chE (eF es (getR M d.name)))))) (docZ M es (orSame (fdE M d.name) (.put d.name (chE (eF es (getR M d.name))))))) := Lib.hid ((nChop d.name h1).mono fun x w' ⟨q1, q2⟩ => ⟨q1, RTo.from_ hb (dn_fd q2)⟩)
  clear h h1 hbk hb
  generalize docZ M es (orSame (fdE M d.name) (.put d.name (chE (eF es (getR M d.name))))) = cz at HC ⊢
  generalize docM M es (orSame (fdE M d.name) (.put d.name (chE (eF es (getR M d.name))))) = cg at HC ⊢
  generalize fdE M d.name = pe at HC ⊢
  go_enter Tryz.func10, Tryz.ntmps10
  go_wp2_with (go_at_call 31; refine HC.out.mono ?_; rintro e w1 ⟨rfl, hd⟩)
  go_ret
  exact ⟨rfl, hd⟩
set_option maxHeartbeats 2000000 in
/-- told, deed 8. -/
theorem nTold8 (d : Dd) (K0 : Nat → Prop) (A : Option Addr) (n c : Nat) (_hv : LnsAt K0 w (.slice A n c) d.lines) (_hK : ∀ k, K0 k → k < w.heap.size) (_hz1 : d.name.size ≤ 140737488351232) (_hz2 : d.other.size ≤ 140737488351232) (_hz3 : d.text.size ≤ 140737488351232) (_hz4 : d.lines.length ≤ 6000)
    (hwa : -9223372036854775808 ≤ d.a ∧ d.a ≤ 9223372036854775807) (hwb : -9223372036854775808 ≤ d.b ∧ d.b ≤ 9223372036854775807) (_hz : es.length ≤ 1000000) (h : RSt U K w x M es) :
    Calls Tryz.prog 10 #[.pointer (some ⟨x, 0, none⟩), .agg #[.int .i64 8, .string d.name, .string d.other, .string d.text, .slice A n c, .int .i64 d.a, .int .i64 d.b]] w fun r w' => r = .returned (.int .i64 (fdE M d.name)) ∧ RTo U K w w' x (docM M es (orSame (fdE M d.name) (.put d.name (ptE (eF es (getR M d.name)) d.a d.b)))) (docZ M es (orSame (fdE M d.name) (.put d.name (ptE (eF es (getR M d.name)) d.a d.b)))) := by
  have hb : Below w.heap.size w (w.alloc (.cells #[.int .i64 8, .string d.name, .string d.other, .string d.text, .slice A n c, .int .i64 d.a, .int .i64 d.b] 33)) := (Below.refl _ _).alloc (Nat.le_refl _) _
  have hbk := Blk.new w 33 #[.int .i64 8, .string d.name, .string d.other, .string d.text, .slice A n c, .int .i64 d.a, .int .i64 d.b]
  have h1 := h.below hb
  have x0 := hbk.cell 0
  have x1 := hbk.cell 1
  have x2 := hbk.cell 2
  have x3 := hbk.cell 3
  have x4 := hbk.cell 4
  have x5 := hbk.cell 5
  have x6 := hbk.cell 6
  simp only [List.getElem?_toArray, List.getElem?_cons_zero, List.getElem?_cons_succ] at x0 x1 x2 x3 x4 x5 x6
  have HC : Hid (Calls Tryz.prog 32 #[.pointer (some ⟨x, 0, none⟩), .string d.name, .int .i64 d.a, .int .i64 d.b] (w.alloc (.cells #[.int .i64 8, .string d.name, .string d.other, .string d.text, .slice A n c, .int .i64 d.a, .int .i64 d.b] 33)) fun r w' => r = .returned (.int .i64 (fdE M d.name)) ∧ RTo U K w w' x (docM M es (orSame (fdE M d.name) (.put d.name (ptE (eF es (getR M d.name)) d.a d.b)))) (docZ M es (orSame (fdE M d.name) (.put d.name (ptE (eF es (getR M d.name)) d.a d.b))))) := Lib.hid ((nPart d.name d.a d.b hwa.1 hwb.1 hwa.2 hwb.2 h1).mono fun x w' ⟨q1, q2⟩ => ⟨q1, RTo.from_ hb (dn_fd q2)⟩)
  clear h h1 hbk hb
  generalize docZ M es (orSame (fdE M d.name) (.put d.name (ptE (eF es (getR M d.name)) d.a d.b))) = cz at HC ⊢
  generalize docM M es (orSame (fdE M d.name) (.put d.name (ptE (eF es (getR M d.name)) d.a d.b))) = cg at HC ⊢
  generalize fdE M d.name = pe at HC ⊢
  go_enter Tryz.func10, Tryz.ntmps10
  go_wp2_with (go_at_call 32; refine HC.out.mono ?_; rintro e w1 ⟨rfl, hd⟩)
  go_ret
  exact ⟨rfl, hd⟩
set_option maxHeartbeats 2000000 in
/-- told, of a deed that is none. -/
theorem nTold9 (d : Dd) (A : Option Addr) (n c : Nat) (e0 : d.what ≠ 0) (e1 : d.what ≠ 1) (e2 : d.what ≠ 2) (e3 : d.what ≠ 3) (e4 : d.what ≠ 4) (e5 : d.what ≠ 5) (e6 : d.what ≠ 6) (e7 : d.what ≠ 7) (e8 : d.what ≠ 8) :
    Calls Tryz.prog 10 #[.pointer (some ⟨x, 0, none⟩), ddV d (.slice A n c)] w fun r w' => r = .returned (.int .i64 0) ∧ Below w.heap.size w w' := by
  unfold ddV
  have hb : Below w.heap.size w (w.alloc (.cells #[.int .i64 d.what, .string d.name, .string d.other, .string d.text, .slice A n c, .int .i64 d.a, .int .i64 d.b] 33)) := (Below.refl _ _).alloc (Nat.le_refl _) _
  have HB := Lib.hid hb
  have hbk := Blk.new w 33 #[.int .i64 d.what, .string d.name, .string d.other, .string d.text, .slice A n c, .int .i64 d.a, .int .i64 d.b]
  have x0 := hbk.cell 0
  simp only [List.getElem?_toArray, List.getElem?_cons_zero] at x0
  have q0 : (d.what == 0) = false := by simpa using e0
  have q1 : (d.what == 1) = false := by simpa using e1
  have q2 : (d.what == 2) = false := by simpa using e2
  have q3 : (d.what == 3) = false := by simpa using e3
  have q4 : (d.what == 4) = false := by simpa using e4
  have q5 : (d.what == 5) = false := by simpa using e5
  have q6 : (d.what == 6) = false := by simpa using e6
  have q7 : (d.what == 7) = false := by simpa using e7
  have q8 : (d.what == 8) = false := by simpa using e8
  clear hb hbk
  generalize d.what = wh at *
  go_enter Tryz.func10, Tryz.ntmps10
  go_wp2_with fail
  go_ret
  exact ⟨rfl, HB.out⟩
/-- told. -/
theorem nTold (d : Dd) (K0 : Nat → Prop) (v : Value) (hv : LnsAt K0 w v d.lines) (hK : ∀ k, K0 k → k < w.heap.size) (hz1 : d.name.size ≤ 140737488351232) (hz2 : d.other.size ≤ 140737488351232) (hz3 : d.text.size ≤ 140737488351232) (hz4 : d.lines.length ≤ 6000)
    (hwa : -9223372036854775808 ≤ d.a ∧ d.a ≤ 9223372036854775807) (hwb : -9223372036854775808 ≤ d.b ∧ d.b ≤ 9223372036854775807) (hz : es.length ≤ 1000000) (h : RSt U K w x M es) :
    Calls Tryz.prog 10 #[.pointer (some ⟨x, 0, none⟩), ddV d v] w fun r w' => r = .returned (.int .i64 (doE M (eF es) d)) ∧ RTo U K w w' x (docM M es (doC M (eF es) d)) (docZ M es (doC M (eF es) d)) := by
  obtain ⟨A, n, c, rfl⟩ : ∃ A n c, v = .slice A n c := by
    obtain ⟨A, c, e, _⟩ := hv
    exact ⟨A, _, c, e⟩
  by_cases e0 : d.what = 0
  · rw [show doE M (eF es) d = dfE M d.name d.text by unfold doE; rw [if_pos e0], show doC M (eF es) d = orSame (dfE M d.name d.text) (.put d.name (.str d.text)) by unfold doC; rw [if_pos e0], show ddV d (.slice A n c) = .agg #[.int .i64 0, .string d.name, .string d.other, .string d.text, .slice A n c, .int .i64 d.a, .int .i64 d.b] by unfold ddV; rw [e0]]
    exact nTold0 d K0 A n c hv hK hz1 hz2 hz3 hz4 hwa hwb hz h
  by_cases e1 : d.what = 1
  · rw [show doE M (eF es) d = apE M (eF es) d.name d.text by unfold doE; rw [if_neg e0]; rw [if_pos e1], show doC M (eF es) d = orSame (apE M (eF es) d.name d.text) (.put d.name (.str (apT M (eF es) d.name d.text))) by unfold doC; rw [if_neg e0]; rw [if_pos e1], show ddV d (.slice A n c) = .agg #[.int .i64 1, .string d.name, .string d.other, .string d.text, .slice A n c, .int .i64 d.a, .int .i64 d.b] by unfold ddV; rw [e1]]
    exact nTold1 d K0 A n c hv hK hz1 hz2 hz3 hz4 hwa hwb hz h
  by_cases e2 : d.what = 2
  · rw [show doE M (eF es) d = mcE M d.name d.lines by unfold doE; rw [if_neg e0]; rw [if_neg e1]; rw [if_pos e2], show doC M (eF es) d = orSame (mcE M d.name d.lines) (.put d.name (.mac d.lines)) by unfold doC; rw [if_neg e0]; rw [if_neg e1]; rw [if_pos e2], show ddV d (.slice A n c) = .agg #[.int .i64 2, .string d.name, .string d.other, .string d.text, .slice A n c, .int .i64 d.a, .int .i64 d.b] by unfold ddV; rw [e2]]
    exact nTold2 d K0 A n c hv hK hz1 hz2 hz3 hz4 hwa hwb hz h
  by_cases e3 : d.what = 3
  · rw [show doE M (eF es) d = adE M (eF es) d.name d.lines by unfold doE; rw [if_neg e0]; rw [if_neg e1]; rw [if_neg e2]; rw [if_pos e3], show doC M (eF es) d = orSame (adE M (eF es) d.name d.lines) (.put d.name (.mac (adL M (eF es) d.name d.lines))) by unfold doC; rw [if_neg e0]; rw [if_neg e1]; rw [if_neg e2]; rw [if_pos e3], show ddV d (.slice A n c) = .agg #[.int .i64 3, .string d.name, .string d.other, .string d.text, .slice A n c, .int .i64 d.a, .int .i64 d.b] by unfold ddV; rw [e3]]
    exact nTold3 d K0 A n c hv hK hz1 hz2 hz3 hz4 hwa hwb hz h
  by_cases e4 : d.what = 4
  · rw [show doE M (eF es) d = erI (nameB d.name) 6 by unfold doE; rw [if_neg e0]; rw [if_neg e1]; rw [if_neg e2]; rw [if_neg e3]; rw [if_pos e4], show doC M (eF es) d = orSame (erI (nameB d.name) 6) (.del d.name) by unfold doC; rw [if_neg e0]; rw [if_neg e1]; rw [if_neg e2]; rw [if_neg e3]; rw [if_pos e4], show ddV d (.slice A n c) = .agg #[.int .i64 4, .string d.name, .string d.other, .string d.text, .slice A n c, .int .i64 d.a, .int .i64 d.b] by unfold ddV; rw [e4]]
    exact nTold4 d K0 A n c hv hK hz1 hz2 hz3 hz4 hwa hwb hz h
  by_cases e5 : d.what = 5
  · rw [show doE M (eF es) d = rnE M d.name d.other by unfold doE; rw [if_neg e0]; rw [if_neg e1]; rw [if_neg e2]; rw [if_neg e3]; rw [if_neg e4]; rw [if_pos e5], show doC M (eF es) d = orSame (rnE M d.name d.other) (.ren d.name d.other) by unfold doC; rw [if_neg e0]; rw [if_neg e1]; rw [if_neg e2]; rw [if_neg e3]; rw [if_neg e4]; rw [if_pos e5], show ddV d (.slice A n c) = .agg #[.int .i64 5, .string d.name, .string d.other, .string d.text, .slice A n c, .int .i64 d.a, .int .i64 d.b] by unfold ddV; rw [e5]]
    exact nTold5 d K0 A n c hv hK hz1 hz2 hz3 hz4 hwa hwb hz h
  by_cases e6 : d.what = 6
  · rw [show doE M (eF es) d = alE M d.name d.other by unfold doE; rw [if_neg e0]; rw [if_neg e1]; rw [if_neg e2]; rw [if_neg e3]; rw [if_neg e4]; rw [if_neg e5]; rw [if_pos e6], show doC M (eF es) d = orSame (alE M d.name d.other) (.ali d.name d.other) by unfold doC; rw [if_neg e0]; rw [if_neg e1]; rw [if_neg e2]; rw [if_neg e3]; rw [if_neg e4]; rw [if_neg e5]; rw [if_pos e6], show ddV d (.slice A n c) = .agg #[.int .i64 6, .string d.name, .string d.other, .string d.text, .slice A n c, .int .i64 d.a, .int .i64 d.b] by unfold ddV; rw [e6]]
    exact nTold6 d K0 A n c hv hK hz1 hz2 hz3 hz4 hwa hwb hz h
  by_cases e7 : d.what = 7
  · rw [show doE M (eF es) d = fdE M d.name by unfold doE; rw [if_neg e0]; rw [if_neg e1]; rw [if_neg e2]; rw [if_neg e3]; rw [if_neg e4]; rw [if_neg e5]; rw [if_neg e6]; rw [if_pos e7], show doC M (eF es) d = orSame (fdE M d.name) (.put d.name (chE (eF es (getR M d.name)))) by unfold doC; rw [if_neg e0]; rw [if_neg e1]; rw [if_neg e2]; rw [if_neg e3]; rw [if_neg e4]; rw [if_neg e5]; rw [if_neg e6]; rw [if_pos e7], show ddV d (.slice A n c) = .agg #[.int .i64 7, .string d.name, .string d.other, .string d.text, .slice A n c, .int .i64 d.a, .int .i64 d.b] by unfold ddV; rw [e7]]
    exact nTold7 d K0 A n c hv hK hz1 hz2 hz3 hz4 hwa hwb hz h
  by_cases e8 : d.what = 8
  · rw [show doE M (eF es) d = fdE M d.name by unfold doE; rw [if_neg e0]; rw [if_neg e1]; rw [if_neg e2]; rw [if_neg e3]; rw [if_neg e4]; rw [if_neg e5]; rw [if_neg e6]; rw [if_neg e7]; rw [if_pos e8], show doC M (eF es) d = orSame (fdE M d.name) (.put d.name (ptE (eF es (getR M d.name)) d.a d.b)) by unfold doC; rw [if_neg e0]; rw [if_neg e1]; rw [if_neg e2]; rw [if_neg e3]; rw [if_neg e4]; rw [if_neg e5]; rw [if_neg e6]; rw [if_neg e7]; rw [if_pos e8], show ddV d (.slice A n c) = .agg #[.int .i64 8, .string d.name, .string d.other, .string d.text, .slice A n c, .int .i64 d.a, .int .i64 d.b] by unfold ddV; rw [e8]]
    exact nTold8 d K0 A n c hv hK hz1 hz2 hz3 hz4 hwa hwb hz h
  rw [show doE M (eF es) d = 0 by unfold doE; rw [if_neg e0]; rw [if_neg e1]; rw [if_neg e2]; rw [if_neg e3]; rw [if_neg e4]; rw [if_neg e5]; rw [if_neg e6]; rw [if_neg e7]; rw [if_neg e8], show doC M (eF es) d = .same by unfold doC; rw [if_neg e0]; rw [if_neg e1]; rw [if_neg e2]; rw [if_neg e3]; rw [if_neg e4]; rw [if_neg e5]; rw [if_neg e6]; rw [if_neg e7]; rw [if_neg e8]]
  exact (nTold9 d A n c e0 e1 e2 e3 e4 e5 e6 e7 e8).mono fun r w' ⟨q1, q2⟩ => ⟨q1, RTo.same h q2⟩
end
end Go.Proofs.YtbedddgfijpbcaaGreat
