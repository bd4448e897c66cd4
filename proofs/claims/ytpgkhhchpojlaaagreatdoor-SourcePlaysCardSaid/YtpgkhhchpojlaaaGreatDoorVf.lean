/- Walks: texts, how a name is found, whether there is room. Walks: put. Walks: New, Define, Append, Text. -/
import Derived.Test.YtpgkhhchpojlaaaGreatDoorVa
import Derived.Test.YtpgkhhchpojlaaaGreatDoorShelf
import Derived.Test.YtpgkhhchpojlaaaGreatDoorEd
namespace Go.Proofs.YtpgkhhchpojlaaaGreatDoor.Sto
open Go.RowKit Go.Maps Go.WideMaps

/-- Whether a text has no line feed. -/
def noLf (s : ByteArray) : Bool := !decide (0 ≤ Lib.indexByte s.data.toList 10)
def textB (s : ByteArray) : Bool := decide (s.size ≤ 2000) && noLf s
/-- validText. -/
theorem cText (s : ByteArray) (hs : s.size ≤ maxLen) (w : World) :
    Calls Tryz.prog 96 #[.string s] w fun e w' => e = .returned (.bool (textB s)) ∧ w = w' := by
  unfold maxLen at hs
  have HC := Lib.hid (fun w => Tryz.strings_Contains_one s 10 w)
  by_cases h1 : (s.size : Int) ≤ 2000
  · have hn : textB s = noLf s := by unfold textB; rw [decide_eq_true (by omega : s.size ≤ 2000)]; rfl
    rw [hn]
    unfold noLf
    generalize decide (0 ≤ Lib.indexByte s.data.toList 10) = b at HC ⊢
    clear hn
    go_enter Tryz.func96, Tryz.ntmps96
    go_wp2_with (go_at_call 102; refine (HC.out _).mono ?_; rintro e w' ⟨rfl, rfl⟩)
    go_ret
    exact ⟨rfl, rfl⟩
  · have hn : textB s = false := by unfold textB; rw [decide_eq_false (by omega : ¬ s.size ≤ 2000)]; rfl
    rw [hn]; clear hn
    go_enter Tryz.func96, Tryz.ntmps96
    go_wp2_with fail
    go_ret
    exact ⟨rfl, rfl⟩
/-- What check answers. -/
def chk (good : Bool) (s : ByteArray) : Int := if good then erI (nameB s) 6 else 1
/-- check, of a store that was made. -/
theorem cCheck (good : Bool) (s : ByteArray) (hs : s.size ≤ maxLen) (g bm : Nat) (w : World) (c0 : w.cell? ⟨g, 0, none⟩ = some (.map (some bm))) :
    Calls Tryz.prog 78 #[.pointer (some ⟨g, 0, none⟩), .bool good, .string s] w fun e w' => e = .returned (.int .i64 (chk good s)) ∧ w = w' := by
  have HN := Lib.hid (fun w => cName s hs w)
  have qm := fun (w : World) => run_eql_map_nil (P := Tryz.prog) w 97 _ _ (some bm) Tryz.underlying97
  unfold chk
  generalize nameB s = a at HN ⊢
  cases good
  · go_enter Tryz.func78, Tryz.ntmps78
    go_wp2_with fail
    go_ret
    exact ⟨rfl, rfl⟩
  · cases a
    all_goals
      go_enter Tryz.func78, Tryz.ntmps78
      go_wp2_with (go_at_call 85; refine (HN.out _).mono ?_; rintro e w' ⟨rfl, rfl⟩)
      go_ret
      exact ⟨rfl, rfl⟩
section
variable {U F : Nat → Prop} {R : Nat → Option Nat} {w : World} {g bm : Nat} {L : List Ent} {E : Nat → En}
/-- Whether there is no room. -/
def fullB (L : List Ent) (s : ByteArray) : Bool := !hasB L s && decide (500 ≤ L.length)
/-- fullFor. -/
theorem cFull (s : ByteArray) (hs : s.size ≤ maxLen) (h : StAt U F R w g bm L E) :
    Calls Tryz.prog 89 #[.pointer (some ⟨g, 0, none⟩), .string s] w fun e w' => e = .returned (.bool (fullB L s)) ∧ w = w' := by
  have c0 := h.c0
  have hown := h.own
  have HS := Lib.hid h.srt
  have hl := lenB h
  clear h
  have hq : fullB L s = (!hasB L s && decide ((500 : Int) ≤ (L.length : Nat))) := by
    unfold fullB
    congr 1
    exact decide_eq_decide.2 (by omega)
  rw [hq]
  clear hq
  cases hh : hasB L s
  all_goals
    have HH := Lib.hid hh
    clear hh
    go_enter Tryz.func89, Tryz.ntmps89
    go_wp2_with (at_lookup; refine wpList_look _ rfl _ _ rfl bm L.length L rfl hown HS.out s hs rfl ?_; rw [HH.out])
    go_ret
    exact ⟨rfl, rfl⟩
end
end Go.Proofs.YtpgkhhchpojlaaaGreatDoor.Sto
namespace Go.Proofs.YtpgkhhchpojlaaaGreatDoor.Sto
open Go.RowKit Go.Maps Go.WideMaps

theorem has_at {L : List Ent} {s : ByteArray} (h : hasB L s = true) : L[idx L s]? = some (s, getR L s) := by
  unfold hasB at h
  unfold getR
  cases he : L[idx L s]? with
  | none => rw [he] at h; cases h
  | some p =>
    rw [he] at h
    have e : p.1 = s := by simpa using h
    simp only [e, if_true]
    rw [← e]
theorem put_same {L : List Ent} {s : ByteArray} (h : hasB L s = true) : putR L s (getR L s) = L := by
  unfold putR
  rw [if_pos h]
  obtain ⟨hk, e⟩ := List.getElem?_eq_some_iff.1 (has_at h)
  rw [← e]
  exact List.set_getElem_self hk
theorem EnVal.form {r : Option Nat} {F : Nat → Prop} {w : World} {k : Int} {t : ByteArray} {v : Value} {en : En} (h : EnVal r F w k t v en) : ∃ A n c, v = .slice A n c := by
  cases en with
  | str s => exact ⟨none, 0, 0, h.2.2.1⟩
  | mac ls =>
    obtain ⟨A, cap, e, _⟩ := h.2.2.1
    exact ⟨A, _, cap, e⟩
theorem blk_set3 {w : World} {e : Nat} {t : TypeId} {a b c : Value} (hb : Blk w e t #[a, b, c]) (x y z : Value) :
    Turn (· = e) w (((w.setCell ⟨e, 0, none⟩ x).setCell ⟨e, 1, none⟩ y).setCell ⟨e, 2, none⟩ z) ∧ Blk (((w.setCell ⟨e, 0, none⟩ x).setCell ⟨e, 1, none⟩ y).setCell ⟨e, 2, none⟩ z) e t #[x, y, z] :=
  ⟨((turn_set w e 0 x).trans (turn_set _ e 1 y) (fun _ _ h => h)).trans (turn_set _ e 2 z) (fun _ _ h => h), blk_set (blk_set (blk_set hb x) y) z⟩
/-- What put leaves, at the end of what made the entry. -/
def PutTo (U F : Nat → Prop) (g bm : Nat) (w w' : World) (L : List Ent) (E : Nat → En) (s : ByteArray) (en : En) : Prop :=
  ∃ e' U' F' R', StAt U' F' R' w' g bm (putR L s e') (upd E e' en) ∧ Turn U w w' ∧ (∀ i, U' i → U i ∨ w.heap.size ≤ i) ∧ (∀ i, F' i → F i ∨ w.heap.size ≤ i) ∧ (hasB L s = true → e' = getR L s) ∧ (hasB L s = false → w.heap.size ≤ e')
section
variable {U F : Nat → Prop} {R : Nat → Option Nat} {w : World} {g bm : Nat} {L : List Ent} {E : Nat → En}
/-- How a store is changed where an entry is put. -/
def Put0 (r : Option Nat) (U F : Nat → Prop) (g bm : Nat) (w w' : World) (L : List Ent) (E : Nat → En) (s : ByteArray) (en : En) : Prop :=
  ∃ e' U' R', StAt U' F R' w' g bm (putR L s e') (upd E e' en) ∧ Turn U w w' ∧ (∀ i, U' i → U i ∨ r = some i ∨ w.heap.size ≤ i) ∧ (hasB L s = true → e' = getR L s) ∧ (hasB L s = false → w.heap.size ≤ e')
set_option maxHeartbeats 400000 in
/-- put, where the name is there. -/
theorem cPutHas (s : ByteArray) (hs : s.size ≤ maxLen) (h : StAt U F R w g bm L E) {r : Option Nat} {k : Int} {t : ByteArray} {v : Value} {en : En} (hv : EnVal r F w k t v en) (hr : ∀ i, r = some i → ¬ U i ∧ ¬ F i ∧ i ≠ g ∧ i < w.heap.size) (hh : hasB L s = true) :
    Calls Tryz.prog 80 #[.pointer (some ⟨g, 0, none⟩), .string s, .agg #[.int .i64 k, .string t, v]] w fun e w' => e = .returned (.int .i64 0) ∧ Put0 r U F g bm w w' L E s en := by
  obtain ⟨A, vn, vc, rfl⟩ := hv.form
  have hb0 : Below w.heap.size w (w.alloc (.cells #[.int .i64 k, .string t, .slice A vn vc] 103)) := (Below.refl _ _).alloc (Nat.le_refl _) _
  have h1 := h.below hb0
  have c0 := h1.c0
  have hown := h1.own
  have HS := Lib.hid h1.srt
  have HF := Lib.hid (cFull s hs h1)
  have hz := Blk.new w 103 #[.int .i64 k, .string t, .slice A vn vc]
  have z0 := hz.cell 0
  have z1 := hz.cell 1
  have z2 := hz.cell 2
  have hm := mem_get hh
  obtain ⟨k0, t0, v0, hbe, _⟩ := h1.ent _ hm
  have y0 := hbe.cell 0
  have y1 := hbe.cell 1
  have y2 := hbe.cell 2
  have f0 := hbe.frozen 0
  have f1 := hbe.frozen 1
  have f2 := hbe.frozen 2
  simp only [List.getElem?_toArray, List.getElem?_cons_zero, List.getElem?_cons_succ] at z0 z1 z2 y0 y1 y2
  have hue := h1.ue _ hm
  have e2 : lkV L s = .pointer (some ⟨getR L s, 0, none⟩) := by unfold lkV; rw [hh]; rfl
  have hfl : fullB L s = false := by unfold fullB; rw [hh]; rfl
  rw [hfl] at HF
  have hps := put_same hh
  have HP : Hid (∀ w' : World, Turn (· = getR L s) (w.alloc (.cells #[.int .i64 k, .string t, .slice A vn vc] 103)) w' → Blk w' (getR L s) 103 #[.int .i64 k, .string t, .slice A vn vc] → Put0 r U F g bm w w' L E s en) := Lib.hid (fun w' hT hb => by
    refine ⟨getR L s, fun i => U i ∨ r = some i, upd R (getR L s) r, ?_, ?_, ?_, fun _ => rfl, fun e => by rw [hh] at e; cases e⟩
    · rw [hps]
      exact h1.store hbe hT hb (hv.stay (Kept.of_all hb0) (fun _ h => h)) hue (fun i hi => ⟨(hr i hi).1, (hr i hi).2.1, (hr i hi).2.2.1, Nat.lt_of_lt_of_le (hr i hi).2.2.2 hb0.size⟩)
    · exact (Turn.of_below hb0 : Turn U w _).trans hT (fun i _ e => by rw [e]; exact hue)
    · rintro i (hi | hi)
      · exact .inl hi
      · exact .inr (.inl hi))
  have HE := Lib.hid hbe
  have HH := Lib.hid hh
  have H2 := Lib.hid e2
  clear hh e2 hfl hps hm h1 h hbe hz hb0 hue hv hr
  generalize getR L s = e at H2 HP HE y0 y1 y2 f0 f1 f2
  go_enter Tryz.func80, Tryz.ntmps80
  go_wp2_with (first
    | (go_at_call 89; refine HF.out.mono ?_; rintro e w1 ⟨rfl, rfl⟩)
    | (at_lookup; refine wpList_look _ rfl _ _ rfl bm L.length L rfl hown HS.out s hs rfl ?_; rw [HH.out, H2.out]))
  go_ret
  obtain ⟨q1, q2⟩ := blk_set3 HE.out (.int .i64 k) (.string t) (.slice A vn vc)
  exact ⟨rfl, HP.out _ q1 q2⟩
set_option maxHeartbeats 400000 in
/-- put, where the name is new and there is room. -/
theorem cPutNo (s : ByteArray) (hs : s.size ≤ maxLen) (h : StAt U F R w g bm L E) {r : Option Nat} {k : Int} {t : ByteArray} {v : Value} {en : En} (hv : EnVal r F w k t v en) (hr : ∀ i, r = some i → ¬ U i ∧ ¬ F i ∧ i ≠ g ∧ i < w.heap.size)
    (hh : hasB L s = false) (hl : L.length < 500) (hn : nameB s = true) :
    Calls Tryz.prog 80 #[.pointer (some ⟨g, 0, none⟩), .string s, .agg #[.int .i64 k, .string t, v]] w fun e w' => e = .returned (.int .i64 0) ∧ Put0 r U F g bm w w' L E s en := by
  obtain ⟨A, vn, vc, rfl⟩ := hv.form
  have hb0 : Below w.heap.size w (w.alloc (.cells #[.int .i64 k, .string t, .slice A vn vc] 103)) := (Below.refl _ _).alloc (Nat.le_refl _) _
  have h1 := h.below hb0
  have c0 := h1.c0
  have hown := h1.own
  have HS := Lib.hid h1.srt
  have HF := Lib.hid (cFull s hs h1)
  have hz := Blk.new w 103 #[.int .i64 k, .string t, .slice A vn vc]
  have e2 : lkV L s = .pointer none := by unfold lkV; rw [hh]; rfl
  have hfl : fullB L s = false := by unfold fullB; rw [decide_eq_false (by omega)]; simp
  rw [hfl] at HF
  have hlt := h.ids
  have HP : Hid (∀ w' : World, w'.ownsMap Tryz.prog 9 RR bm (L.length + 1) ((DB L).put (kOf s) (.held (regVal w.heap.size))) → (w.alloc (.cells #[.int .i64 k, .string t, .slice A vn vc] 103)).grownBy w' (some bm) → Put0 r U F g bm w w' L E s en) := Lib.hid (fun w' ho hg => by
    have hgl := h.blk.lt
    have hw1 : StAt (fun i => U i ∨ r = some i ∨ i = w.heap.size) F R (w.alloc (.cells #[.int .i64 k, .string t, .slice A vn vc] 103)) g bm L E := h1.wide (fun i => .inl) (fun _ h => h) (by
      rintro (h2 | h2 | h2)
      · exact h.ug h2
      · exact (hr g h2).2.2.1 rfl
      · omega) (by
      rintro i (h2 | h2 | h2)
      · exact h.uf i h2
      · exact (hr i h2).2.1
      · intro h3
        have := h.fl i h3
        omega) (by
      rintro i (h2 | h2 | h2)
      · have := h1.ul i h2
        exact this
      · have := (hr i h2).2.2.2
        simp; omega
      · simp; omega) h1.fl
    have hw2 := hw1.fresh (e := w.heap.size) r en (fun p hp => Nat.ne_of_lt (hlt p hp))
    have hw3 := hw2.link (s := s) (e := w.heap.size) ho hg (.inr hl) hn (by rw [upd_at, upd_at]; exact ⟨k, t, .slice A vn vc, hz, hv.stay (Kept.of_all hb0) (fun _ h => h)⟩) (.inr (.inr rfl)) (fun i hi => by rw [upd_at] at hi; exact .inr (.inl hi))
      (fun q hq i h2 h3 => by
        rw [upd_at] at h3
        rw [upd_ne (Nat.ne_of_lt (hlt q hq))] at h2
        exact absurd (h.ur q hq i h2) (hr i h3).1)
    refine ⟨w.heap.size, _, _, hw3, (Turn.of_below hb0 : Turn U w _).trans (Turn.of_grown hg) (fun i _ e => by rw [e]; exact h.ubm), ?_, fun e => (by rw [hh] at e; cases e), fun _ => Nat.le_refl _⟩
    rintro i (hi | hi | hi)
    · exact .inl hi
    · exact .inr (.inl hi)
    · exact .inr (.inr (by omega)))
  have HH := Lib.hid hh
  have H2 := Lib.hid e2
  clear hh e2 hfl h1 h hz hb0 hv hr hlt
  go_enter Tryz.func80, Tryz.ntmps80
  go_wp2_with (first
    | (go_at_call 89; refine HF.out.mono ?_; rintro e w1 ⟨rfl, rfl⟩)
    | (at_lookup; refine wpList_look _ rfl _ _ rfl bm L.length L rfl hown HS.out s hs rfl ?_; rw [HH.out, H2.out])
    | (at_mapUpdate; refine wpList_mapUpdate_own _ rfl _ _ _ 97 rfl 9 107 law Tryz.underlying97 RR bm L.length (DB L) rfl hown (by unfold maxLen; omega) (.string s) (.pointer (some ⟨w.heap.size, 0, none⟩)) (kOf s) rfl rfl (keyOf_string_mk Tryz.underlying9 hs) (.held (.pointer (some ⟨w.heap.size, 0, none⟩))) [] rfl ?_; intro w5 ho5 hg5))
  go_ret
  exact ⟨rfl, HP.out _ ho5 hg5⟩
/-- put, where there is no room. -/
theorem cPutFull (s : ByteArray) (hs : s.size ≤ maxLen) (h : StAt U F R w g bm L E) (x y z : Value) (hfl : fullB L s = true) :
    Calls Tryz.prog 80 #[.pointer (some ⟨g, 0, none⟩), .string s, .agg #[x, y, z]] w fun e w' => e = .returned (.int .i64 9) ∧ Below w.heap.size w w' := by
  have HF := Lib.hid (fun c => cFull s hs (h.below ((Below.refl w.heap.size w).alloc (Nat.le_refl _) (.cells c 103))))
  clear h
  rw [hfl] at HF
  clear hfl
  go_enter Tryz.func80, Tryz.ntmps80
  go_wp2_with (go_at_call 89; refine (HF.out _).mono ?_; rintro e w1 ⟨rfl, rfl⟩)
  go_ret
  exact ⟨rfl, (Below.refl _ _).alloc (Nat.le_refl _) _⟩
/-- What put answers. -/
def putE (L : List Ent) (s : ByteArray) : Int := if fullB L s then 9 else 0
/-- put. -/
theorem cPut (s : ByteArray) (hs : s.size ≤ maxLen) (h : StAt U F R w g bm L E) {r : Option Nat} {k : Int} {t : ByteArray} {v : Value} {en : En} (hv : EnVal r F w k t v en) (hr : ∀ i, r = some i → ¬ U i ∧ ¬ F i ∧ i ≠ g ∧ i < w.heap.size) (hn : nameB s = true) :
    Calls Tryz.prog 80 #[.pointer (some ⟨g, 0, none⟩), .string s, .agg #[.int .i64 k, .string t, v]] w fun e w' => e = .returned (.int .i64 (putE L s)) ∧
      (fullB L s = true → Below w.heap.size w w') ∧ (fullB L s = false → Put0 r U F g bm w w' L E s en) := by
  unfold putE
  cases hf : fullB L s
  · have hm : Calls Tryz.prog 80 #[.pointer (some ⟨g, 0, none⟩), .string s, .agg #[.int .i64 k, .string t, v]] w fun e w' => e = .returned (.int .i64 0) ∧ Put0 r U F g bm w w' L E s en := by
      cases hh : hasB L s
      · refine cPutNo s hs h hv hr hh ?_ hn
        unfold fullB at hf
        rw [hh] at hf
        have : ¬ 500 ≤ L.length := by simpa using hf
        omega
      · exact cPutHas s hs h hv hr hh
    exact hm.mono fun e w' ⟨h1, h2⟩ => ⟨h1, fun h => (by cases h), fun _ => h2⟩
  · exact (cPutFull s hs h _ _ _ hf).mono fun e w' ⟨h1, h2⟩ => ⟨h1, fun _ => h2, fun h => (by cases h)⟩
end
end Go.Proofs.YtpgkhhchpojlaaaGreatDoor.Sto
namespace Go.Proofs.YtpgkhhchpojlaaaGreatDoor.Sto
open Go.RowKit Go.Maps Go.WideMaps

/-- New. -/
theorem cNew (w : World) (E : Nat → En) : Calls Tryz.prog 68 #[] w fun e w' => e = .returned (.pointer (some ⟨w.heap.size + 1, 0, none⟩)) ∧
    StAt (· = w.heap.size) (fun _ => False) (fun _ => none) w' (w.heap.size + 1) w.heap.size [] E ∧ Below w.heap.size w w' := by
  have hmm := @run_makeMap Tryz.prog
  go_enter Tryz.func68, Tryz.ntmps68
  go_wp2_with fail
  go_ret
  refine ⟨rfl, ⟨?_, ?_, List.Pairwise.nil, by simp, by intro p hp; (cases hp), rfl, by omega, fun _ _ => id, ?_, fun _ h => h.elim, by intro p hp; (cases hp), by intro p hp; (cases hp), by intro p hp; (cases hp), by intro p hp; (cases hp)⟩, ((Below.refl _ _).alloc (Nat.le_refl _) _).alloc (by simp) _⟩
  · have := Blk.new (w.alloc (.map #[] 0)) 99 #[.map (some w.heap.size)]
    simpa using this
  · exact (World.ownsMap_made w Tryz.prog 9 RR).alloc _
  · intro i hi
    subst hi
    simp
    omega
section
variable {U F : Nat → Prop} {R : Nat → Option Nat} {w : World} {g bm : Nat} {L : List Ent} {E : Nat → En}
theorem Put0.none_ {w' : World} {s : ByteArray} {en : En} (h : Put0 none U F g bm w w' L E s en) : PutTo U F g bm w w' L E s en := by
  obtain ⟨e', U', R', h1, h2, h3, h4, h5⟩ := h
  refine ⟨e', U', F, R', h1, h2, fun i hi => ?_, fun i hi => .inl hi, h4, h5⟩
  rcases h3 i hi with h | h | h
  · exact .inl h
  · cases h
  · exact .inr h
theorem chk_0 {b : Bool} {s : ByteArray} (h : chk b s = 0) : b = true ∧ nameB s = true := by
  unfold chk at h
  split at h
  · rename_i hb
    refine ⟨hb, ?_⟩
    cases hn : nameB s
    · rw [hn] at h; cases h
    · rfl
  · cases h
theorem text_size {t : ByteArray} (h : textB t = true) : t.size ≤ 2000 := by
  unfold textB at h
  simp only [Bool.and_eq_true, decide_eq_true_eq] at h
  exact h.1
end
end Go.Proofs.YtpgkhhchpojlaaaGreatDoor.Sto
