/- Walk: a stack with a file below, and at most one frame above. -/
import Derived.Test.YtpgkhhchpojlaaaDoorMf
import Derived.Test.YtpgkhhchpojlaaaDoorMb
namespace Go.Proofs.YtpgkhhchpojlaaaDoor
open Go.RowKit Go.Maps Go.WideMaps

/-- The file of a text, so many of its lines read. -/
def oF (s : ByteArray) (a : Nat) : Fr := ⟨1, nmF, rdL s, [], a⟩
section
variable {s t : ByteArray} {a : Nat} {f : Fr}
theorem o_base : baseN [oF s a] = 1 := by simp [baseN, topN, Fr.is, oF]
theorem o_line (h : (lnsT s)[a]? = some t) : (oF s a).lines[(oF s a).pos]? = some (tLn t) := by
  show (rdL s)[a]? = _
  unfold rdL
  rw [List.getElem?_map, h]
  rfl
theorem o_live (h : a < (lnsT s).length) : (oF s a).live = true := by
  have : ¬ (rdL s).length ≤ a := by unfold rdL; rw [List.length_map]; omega
  unfold Fr.live Fr.over
  show (!(decide ((rdL s).length ≤ a))) = true
  rw [decide_eq_false this]
  rfl
theorem o_dead (h : (lnsT s).length ≤ a) : (oF s a).live = false := by
  have : (rdL s).length ≤ a := by unfold rdL; rw [List.length_map]; omega
  unfold Fr.live Fr.over
  show (!(decide ((rdL s).length ≤ a))) = false
  rw [decide_eq_true this]
  rfl
theorem o_live1 (h : a < (lnsT s).length) : liveN [oF s a] = 1 := by simp [liveN, topN, o_live h]
theorem o_live2 (hf : f.live = true) : liveN [oF s a, f] = 2 := by simp [liveN, topN, hf]
theorem o_live3 (h : a < (lnsT s).length) (hf : f.live = false) : liveN [oF s a, f] = 1 := by simp [liveN, topN, hf, o_live h]
theorem o_put (ok : Bool) (f : Fr) : (putE ok [oF s a] = 0 ∧ putF ok [oF s a] f = [oF s a, f]) ∨ (putE ok [oF s a] ≠ 0 ∧ putF ok [oF s a] f = [oF s a]) := by
  unfold putE putF psE psF
  rw [o_base]
  cases ok
  · exact .inr ⟨by decide, rfl⟩
  · exact .inl ⟨rfl, rfl⟩
/-- A deed that puts a frame. -/
theorem o_deed (d : Dd) (h : 0 ≤ d.what ∧ d.what ≤ 2) : (ddE [oF s a] d = 0 ∧ ∃ f, ddF [oF s a] d = [oF s a, f]) ∨ (ddE [oF s a] d ≠ 0 ∧ ddF [oF s a] d = [oF s a]) := by
  have hw : d.what = 0 ∨ d.what = 1 ∨ d.what = 2 := by omega
  unfold ddE ddF
  rcases hw with hw | hw | hw
  · rw [hw, if_pos rfl, if_pos rfl]
    rcases o_put (s := s) (a := a) (nmdB d.name && rdB d.text) (filFr d.name d.text) with ⟨h1, h2⟩ | ⟨h1, h2⟩
    · exact .inl ⟨h1, _, h2⟩
    · exact .inr ⟨h1, h2⟩
  · rw [hw, if_neg (by decide), if_pos rfl, if_neg (by decide), if_pos rfl]
    rcases o_put (s := s) (a := a) (nmdB d.name && lsOk d.lines) (macFr d.name d.lines d.args) with ⟨h1, h2⟩ | ⟨h1, h2⟩
    · exact .inl ⟨h1, _, h2⟩
    · exact .inr ⟨h1, h2⟩
  · rw [hw, if_neg (by decide), if_neg (by decide), if_pos rfl, if_neg (by decide), if_neg (by decide), if_pos rfl]
    rcases o_put (s := s) (a := a) (lsOk d.lines) (waiFr d.lines) with ⟨h1, h2⟩ | ⟨h1, h2⟩
    · exact .inl ⟨h1, _, h2⟩
    · exact .inr ⟨h1, h2⟩
/-- What is read. -/
theorem o_next1 (h : (lnsT s)[a]? = some t) : nxL [oF s a] = tLn t ∧ nxE [oF s a] = 0 ∧ nxF [oF s a] = [oF s (a + 1)] := by
  have hn := o_live1 (List.getElem?_eq_some_iff.1 h).1
  have e := live_at (fs := [oF s a]) (q := 0) (f := oF s a) hn rfl (o_line h)
  refine ⟨e.2, e.1, ?_⟩
  unfold nxF
  rw [hn]
  rfl
theorem o_next2 (hf : f.live = true) : nxE [oF s a, f] = 0 ∧ nxF [oF s a, f] = [oF s a, f.next] := by
  have hn := o_live2 (s := s) (a := a) hf
  unfold nxE nxF
  rw [hn]
  exact ⟨rfl, rfl⟩
theorem o_next3 (h : (lnsT s)[a]? = some t) (hf : f.live = false) : nxL [oF s a, f] = tLn t ∧ nxE [oF s a, f] = 0 ∧ nxF [oF s a, f] = [oF s (a + 1)] := by
  have hn := o_live3 (f := f) (List.getElem?_eq_some_iff.1 h).1 hf
  have e := live_at (fs := [oF s a, f]) (q := 0) (f := oF s a) hn rfl (o_line h)
  refine ⟨e.2, e.1, ?_⟩
  unfold nxF
  rw [hn]
  rfl
theorem o_next0 (h : (lnsT s).length ≤ a) : nxL [oF s a] = zLn ∧ nxE [oF s a] = 3 := by
  have hn : liveN [oF s a] = 0 := by simp [liveN, topN, o_dead h]
  have e := live_no hn
  exact ⟨e.2, e.1⟩
theorem o_file : putE (nmdB nmF && rdB s) [] = (if rdB s then 0 else 1) ∧ putF (nmdB nmF && rdB s) [] (filFr nmF s) = (if rdB s then [oF s 0] else []) := by
  have h : nmdB nmF = true := by decide +kernel
  rw [h, Bool.true_and]
  cases rdB s
  · exact ⟨rfl, rfl⟩
  · exact ⟨rfl, rfl⟩
end
/-- The code's stack, since w0, and a row of texts that it does not write. -/
structure OH (C : CStk) (w0 : World) (K3 : Nat → Prop) (v : Value) (T : List ByteArray) (g : Nat) (w : World) (fs : List Fr) (U K : Nat → Prop) : Prop where
  below : Below w0.heap.size w0 w
  c : C U K w g fs
  u : ∀ i, U i → w0.heap.size ≤ i
  r : SsAt K3 w v T
  k3 : ∀ i, K3 i → ¬ U i ∧ i < w.heap.size
abbrev OO (C : CStk) (w0 : World) (K3 : Nat → Prop) (v : Value) (T : List ByteArray) (g : Nat) (w : World) (fs : List Fr) : Prop := ∃ U K, OH C w0 K3 v T g w fs U K
section
variable {C : CStk} {w0 w w' : World} {K3 : Nat → Prop} {v : Value} {T : List ByteArray} {g a : Nat} {fs fs' : List Fr} {U K : Nat → Prop} {s t : ByteArray} {f : Fr}
theorem OH.call (h : OH C w0 K3 v T g w fs U K) (hk : CTo C U K w w' g fs') : OO C w0 K3 v T g w' fs' := by
  obtain ⟨U', K', k1, k2, k3, k4⟩ := hk
  have hs := h.below.size
  refine ⟨U', K', k2.below h.below hs h.u, k1, fun i hi => ?_, h.r.stay (Kept.of_turn k2 (fun i hi => (h.k3 i hi).1)) (fun _ hi => hi), fun i hi => ⟨fun hu => ?_, Nat.lt_of_lt_of_le (h.k3 i hi).2 k2.size⟩⟩
  · rcases k3 i hi with h3 | h3
    · exact h.u i h3
    · omega
  · rcases k3 i hu with h3 | h3
    · exact (h.k3 i hi).1 h3
    · have := (h.k3 i hi).2
      omega
theorem OO.on (M : CBase C) (h : OO C w0 K3 v T g w fs) (hb : Below w.heap.size w w') : OO C w0 K3 v T g w' fs := by
  obtain ⟨U, K, h⟩ := h
  exact ⟨U, K, h.below.trans (hb.mono h.below.size), M.below h.c hb, h.u, h.r.stay (Kept.of_below hb (fun i hi => (h.k3 i hi).2)) (fun _ hi => hi), fun i hi => ⟨(h.k3 i hi).1, Nat.lt_of_lt_of_le (h.k3 i hi).2 hb.size⟩⟩
theorem OO.below (h : OO C w0 K3 v T g w fs) : Below w0.heap.size w0 w := by
  obtain ⟨U, K, h⟩ := h
  exact h.below
theorem OO.cell {A : Option Addr} {n c i : Nat} {x : ByteArray} (h : OO C w0 K3 (.slice A n c) T g w fs) (hx : T[i]? = some x) : ∃ p off, A = some ⟨p, off, none⟩ ∧ n = T.length ∧ w.cell? ⟨p, off + i, none⟩ = some (.string x) := by
  obtain ⟨U, K, h⟩ := h
  obtain ⟨A', c', e, h1, h2, h3⟩ := h.r
  injection e with e1 e2 e3
  subst e1 e2 e3
  obtain ⟨p, off, rfl, _, hr⟩ := h3 (by have := (List.getElem?_eq_some_iff.1 hx).1; omega)
  have := (hr i _ hx).1
  rw [Nat.mul_one] at this
  exact ⟨p, off, rfl, rfl, this⟩
theorem oDepth (M : CMeth C) (h : OO C w0 K3 v T g w fs) : Calls Tryd.prog 13 #[.pointer (some ⟨g, 0, none⟩)] w fun e w' => e = .returned (.int .i64 (fs.length : Nat)) ∧ OO C w0 K3 v T g w' fs ∧ Below w.heap.size w w' := by
  obtain ⟨U, K, h1⟩ := id h
  exact (M.depth h1.c).mono fun e w2 ⟨h2, h3⟩ => ⟨h2, h.on M.toCBase h3, h3⟩
theorem oNew (M : CBase C) {w1 w3 w4 : World} (hb1 : Below w0.heap.size w0 w1) (hc : CNew C w1 w3 g []) (hr : SsAt (fun k => w3.heap.size ≤ k ∧ k < w4.heap.size) w4 v T) (hb : Below w3.heap.size w3 w4) : ∃ K3, OO C w0 K3 v T g w4 [] := by
  obtain ⟨U, K, h1, h2, h3, h4⟩ := hc
  have e1 := hb1.size
  refine ⟨_, U, K, (hb1.trans (h4.mono e1)).trans (hb.mono (Nat.le_trans e1 h4.size)), M.below h1 hb, fun i hi => Nat.le_trans e1 (h2 i hi), hr, fun i hi => ⟨fun hu => ?_, hi.2⟩⟩
  have := (M.sets h1).1 i hu
  have := hi.1
  omega
abbrev OLn (e : Ending) (t : ByteArray) (er : Int) : Prop := ∃ A n c, e = .returned (.tuple #[.agg #[.string t, .bool false, .int .i64 0, .int .i64 0, .slice A n c], .int .i64 er])
theorem oNext1 (M : CMeth C) (ht : (lnsT s)[a]? = some t) (h : OO C w0 K3 v T g w [oF s a]) : Calls Tryd.prog 14 #[.pointer (some ⟨g, 0, none⟩)] w fun e w' => OLn e t 0 ∧ OO C w0 K3 v T g w' [oF s (a + 1)] := by
  obtain ⟨U, K, h1⟩ := h
  refine (M.next h1.c).mono fun e w2 ⟨h2, h3⟩ => ?_
  obtain ⟨e1, e2, e3⟩ := o_next1 ht
  rw [e1, e2] at h2
  rw [e3] at h3
  obtain ⟨v, h4, A, c, rfl, _⟩ := h2
  exact ⟨⟨A, _, c, h4⟩, h1.call h3⟩
theorem oNext3 (M : CMeth C) (ht : (lnsT s)[a]? = some t) (hf : f.live = false) (h : OO C w0 K3 v T g w [oF s a, f]) : Calls Tryd.prog 14 #[.pointer (some ⟨g, 0, none⟩)] w fun e w' => OLn e t 0 ∧ OO C w0 K3 v T g w' [oF s (a + 1)] := by
  obtain ⟨U, K, h1⟩ := h
  refine (M.next h1.c).mono fun e w2 ⟨h2, h3⟩ => ?_
  obtain ⟨e1, e2, e3⟩ := o_next3 ht hf
  rw [e1, e2] at h2
  rw [e3] at h3
  obtain ⟨v, h4, A, c, rfl, _⟩ := h2
  exact ⟨⟨A, _, c, h4⟩, h1.call h3⟩
theorem oNext2 (M : CMeth C) (hf : f.live = true) (h : OO C w0 K3 v T g w [oF s a, f]) : Calls Tryd.prog 14 #[.pointer (some ⟨g, 0, none⟩)] w fun e w' => (∃ l : Ln, ∃ A n c, e = .returned (.tuple #[.agg #[.string l.text, .bool l.made, .int .i64 l.up, .int .i64 l.down, .slice A n c], .int .i64 0])) ∧ OO C w0 K3 v T g w' [oF s a, f.next] := by
  obtain ⟨U, K, h1⟩ := h
  refine (M.next h1.c).mono fun e w2 ⟨h2, h3⟩ => ?_
  obtain ⟨e2, e3⟩ := o_next2 (s := s) (a := a) hf
  rw [e2] at h2
  rw [e3] at h3
  obtain ⟨v, h4, A, c, rfl, _⟩ := h2
  exact ⟨⟨_, A, _, c, h4⟩, h1.call h3⟩
theorem oNext0 (M : CMeth C) (hl : (lnsT s).length ≤ a) (h : OO C w0 K3 v T g w [oF s a]) : Calls Tryd.prog 14 #[.pointer (some ⟨g, 0, none⟩)] w fun e w' => OLn e ⟨#[]⟩ 3 ∧ Below w0.heap.size w0 w' := by
  obtain ⟨U, K, h1⟩ := h
  refine (M.next h1.c).mono fun e w2 ⟨h2, h3⟩ => ?_
  obtain ⟨e1, e2⟩ := o_next0 hl
  rw [e1, e2] at h2
  obtain ⟨v, h4, A, c, rfl, _⟩ := h2
  exact ⟨⟨A, _, c, h4⟩, (h1.call h3).below⟩
theorem oFile (M : CMeth C) (hs : s.size ≤ 1000000) (h : OO C w0 K3 v T g w []) : Calls Tryd.prog 11 #[.pointer (some ⟨g, 0, none⟩), .string ⟨#[102]⟩, .string s] w fun e w' => e = .returned (.int .i64 (if rdB s then 0 else 1)) ∧ OO C w0 K3 v T g w' (if rdB s then [oF s 0] else []) := by
  obtain ⟨U, K, h1⟩ := h
  refine (M.file nmF s (by decide) hs h1.c).mono fun e w2 ⟨h2, h3⟩ => ?_
  rw [o_file.1] at h2
  rw [o_file.2] at h3
  exact ⟨h2, h1.call h3⟩
theorem oDo (M : CMeth C) (d : Dd) (hd : 0 ≤ d.what ∧ d.what ≤ 2) {A A2 : Option Addr} {c c2 : Nat} (hv : LnsAt (fun k => k < w0.heap.size) w0 (.slice A d.lines.length c) d.lines) (hv2 : SsAt (fun k => k < w0.heap.size) w0 (.slice A2 d.args.length c2) d.args) (hz1 : d.name.size ≤ 140737488351232) (hz2 : d.text.size ≤ 1000000) (hz3 : d.lines.length ≤ 10000000000000) (hz4 : d.args.length * 16 ≤ 140737488355328) (hwn : -9223372036854775808 ≤ d.n ∧ d.n ≤ 9223372036854775807) (h : OO C w0 K3 v T g w [oF s a]) :
    Calls Tryd.prog 12 #[.pointer (some ⟨g, 0, none⟩), .agg #[.int .i64 d.what, .string d.name, .string d.text, .slice A d.lines.length c, .slice A2 d.args.length c2, .int .i64 d.n]] w fun e w' => ∃ er : Int, (∃ l : Ln, ∃ A n c, e = .returned (.tuple #[.agg #[.string l.text, .bool l.made, .int .i64 l.up, .int .i64 l.down, .slice A n c], .int .i64 er])) ∧ ((er = 0 ∧ ∃ f, OO C w0 K3 v T g w' [oF s a, f]) ∨ (er ≠ 0 ∧ OO C w0 K3 v T g w' [oF s a])) := by
  obtain ⟨U, K, h1⟩ := h
  have hb := h1.below
  refine (cDo M d (fun k => k < w0.heap.size) _ _ (hv.stay (Kept.of_below hb (fun i hi => hi)) (fun _ h => h)) (hv2.stay (Kept.of_below hb (fun i hi => hi)) (fun _ h => h)) (fun k hk => Nat.lt_of_lt_of_le hk hb.size) (Nat.le_trans hz1 (by decide)) hz2 hz3 hz4 hwn h1.c).mono fun e w2 ⟨h2, h3⟩ => ?_
  obtain ⟨v, h4, A, c, rfl, _⟩ := h2
  refine ⟨_, ⟨_, A, _, c, h4⟩, ?_⟩
  rcases o_deed (s := s) (a := a) d hd with ⟨e1, f, e2⟩ | ⟨e1, e2⟩
  · rw [e2] at h3
    exact .inl ⟨e1, f, h1.call h3⟩
  · rw [e2] at h3
    exact .inr ⟨e1, h1.call h3⟩
end
end Go.Proofs.YtpgkhhchpojlaaaDoor
