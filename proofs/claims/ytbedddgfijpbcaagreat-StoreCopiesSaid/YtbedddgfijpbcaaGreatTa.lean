/- Plain reckoning: the code's names and entries, and the document's, side by side, behind a deed. -/
import Derived.Test.YtbedddgfijpbcaaGreatBb
import Derived.Test.YtbedddgfijpbcaaGreatRr
namespace Go.Proofs.YtbedddgfijpbcaaGreat

/-- Both tell the same. -/
structure Sim (L : List Ent) (E : Nat → En) (M : List Ent) (es : List En) : Prop where
  srtL : Srt L
  srtM : Srt M
  has : ∀ s, hasB L s = hasB M s
  val : ∀ s, hasB L s = true → E (getR L s) = eF es (getR M s)
  same : ∀ s t, hasB L s = true → hasB L t = true → (getR L s = getR L t ↔ getR M s = getR M t)
  ats : ∀ s, hasB M s = true → @LT.lt Nat _ (getR M s) es.length
section
variable {L L' M M' : List Ent} {E : Nat → En} {es : List En} {s n t : ByteArray}
theorem mem_nm (hL : Srt L) : s ∈ L.map (·.1) ↔ hasB L s = true := by
  constructor
  · intro h
    obtain ⟨p, hp, rfl⟩ := List.mem_map.1 h
    exact (mem_has hL hp).1
  · intro h
    exact List.mem_map.2 ⟨_, mem_get h, rfl⟩
theorem names_eq (hL : Srt L) (hM : Srt M) (h : ∀ s, hasB L s = hasB M s) : L.map (·.1) = M.map (·.1) := by
  have pw : ∀ {N : List Ent}, Srt N → (N.map (·.1)).Pairwise (fun a b => nlt a b = true) := fun h => List.pairwise_map.2 h
  have nd : ∀ {N : List Ent}, Srt N → (N.map (·.1)).Nodup := fun h => (pw h).imp (fun h e => by subst e; rw [nlt_irr] at h; cases h)
  have perm : (L.map (·.1)).Perm (M.map (·.1)) := (List.perm_ext_iff_of_nodup (nd hL) (nd hM)).2 (fun s => by rw [mem_nm hL, mem_nm hM, h])
  refine List.Perm.eq_of_pairwise (le := fun a b => nlt a b = true) (fun a b _ _ h1 h2 => ?_) (pw hL) (pw hM) perm
  have := bl_asy h1
  rw [show bl b.data.toList a.data.toList = nlt b a from rfl, h2] at this
  cases this
theorem Sim.names (h : Sim L E M es) : L.map (·.1) = M.map (·.1) := names_eq h.srtL h.srtM h.has
theorem Sim.len (h : Sim L E M es) : L.length = M.length := by
  have := congrArg List.length h.names
  simpa using this
theorem Sim.full (h : Sim L E M es) (s : ByteArray) : fullB L s = fullB M s := by unfold fullB; rw [h.has, h.len]
theorem Sim.map (h : Sim L E M es) (h1 : Srt L') (h2 : Srt M') (hh : ∀ u, hasB L' u = hasB M' u) (hr : ∀ u, hasB L' u = true → ∃ v, hasB L v = true ∧ getR L' u = getR L v ∧ getR M' u = getR M v) : Sim L' E M' es := by
  refine ⟨h1, h2, hh, fun s hs => ?_, fun s t hs ht => ?_, fun s hs => ?_⟩
  · obtain ⟨v, hv, e1, e2⟩ := hr s hs
    rw [e1, e2]; exact h.val v hv
  · obtain ⟨v, hv, e1, e2⟩ := hr s hs
    obtain ⟨v2, hv2, e3, e4⟩ := hr t ht
    rw [e1, e2, e3, e4]; exact h.same v v2 hv hv2
  · obtain ⟨v, hv, e1, e2⟩ := hr s (by rw [hh]; exact hs)
    rw [e2]; exact h.ats v (by rw [← h.has]; exact hv)
theorem Sim.del (h : Sim L E M es) (n : ByteArray) : Sim (delR L n) E (delR M n) es := by
  refine h.map h.srtL.del h.srtM.del (fun u => by rw [has_del h.srtL, has_del h.srtM, h.has]) (fun u hu => ?_)
  rw [has_del h.srtL, Bool.and_eq_true, decide_eq_true_eq] at hu
  exact ⟨u, hu.2, get_del_ne h.srtL hu.1, get_del_ne h.srtM hu.1⟩
theorem Sim.ali (h : Sim L E M es) (hn : hasB L n = true) (t : ByteArray) : Sim (putR L t (getR L n)) E (putR M t (getR M n)) es := by
  refine h.map h.srtL.put h.srtM.put (fun u => by rw [has_put h.srtL, has_put h.srtM, h.has]) (fun u hu => ?_)
  by_cases e : u = t
  · subst e
    exact ⟨n, hn, get_put_at h.srtL _ _, get_put_at h.srtM _ _⟩
  · rw [has_put h.srtL, decide_eq_false e, Bool.false_or] at hu
    exact ⟨u, hu, get_put_ne h.srtL e _, get_put_ne h.srtM e _⟩
theorem Sim.ren (h : Sim L E M es) (hn : hasB L n = true) (t : ByteArray) : Sim (putR (delR L n) t (getR L n)) E (putR (delR M n) t (getR M n)) es := by
  refine h.map h.srtL.del.put h.srtM.del.put (fun u => by rw [has_put h.srtL.del, has_put h.srtM.del, has_del h.srtL, has_del h.srtM, h.has]) (fun u hu => ?_)
  by_cases e : u = t
  · subst e
    exact ⟨n, hn, get_put_at h.srtL.del _ _, get_put_at h.srtM.del _ _⟩
  · rw [has_put h.srtL.del, decide_eq_false e, Bool.false_or, has_del h.srtL, Bool.and_eq_true, decide_eq_true_eq] at hu
    exact ⟨u, hu.2, by rw [get_put_ne h.srtL.del e, get_del_ne h.srtL hu.1], by rw [get_put_ne h.srtM.del e, get_del_ne h.srtM hu.1]⟩
theorem eF_set {k i : Nat} {en : En} (hk : @LT.lt Nat _ k es.length) : eF (es.set k en) i = if i = k then en else eF es i := by
  unfold eF
  rw [List.getD_eq_getElem?_getD, List.getD_eq_getElem?_getD, List.getElem?_set]
  by_cases e : k = i
  · subst e
    rw [if_pos rfl, if_pos hk, if_pos rfl]; rfl
  · rw [if_neg e, if_neg (fun e' => e e'.symm)]
theorem eF_app {i : Nat} {en : En} : eF (es ++ [en]) i = if i = es.length then en else eF es i := by
  unfold eF
  rw [List.getD_eq_getElem?_getD, List.getD_eq_getElem?_getD]
  by_cases e : i = es.length
  · subst e
    rw [if_pos rfl, List.getElem?_append_right (Nat.le_refl _), Nat.sub_self]; rfl
  · rw [if_neg e]
    by_cases hl : i < es.length
    · rw [List.getElem?_append_left hl]
    · rw [List.getElem?_append_right (by omega), List.getElem?_eq_none (by simp; omega), List.getElem?_eq_none (by omega)]
theorem Sim.putHas (h : Sim L E M es) (hs : hasB L s = true) (en : En) : Sim L (upd E (getR L s) en) M (es.set (getR M s) en) := by
  have hm : hasB M s = true := by rw [← h.has]; exact hs
  refine ⟨h.srtL, h.srtM, h.has, fun u hu => ?_, h.same, fun u hu => by rw [List.length_set]; exact h.ats u hu⟩
  rw [eF_set (h.ats s hm)]
  by_cases e : getR L u = getR L s
  · rw [e, upd_at, if_pos ((h.same u s hu hs).1 e)]
  · rw [upd_ne e, if_neg (fun e' => e ((h.same u s hu hs).2 e')), h.val u hu]
theorem Sim.putNew (h : Sim L E M es) (hs : hasB L s = false) (en : En) {e' : Nat} (hf : ∀ u, hasB L u = true → getR L u ≠ e') : Sim (putR L s e') (upd E e' en) (putR M s es.length) (es ++ [en]) := by
  have hh : ∀ u, hasB (putR L s e') u = hasB (putR M s es.length) u := fun u => by rw [has_put h.srtL, has_put h.srtM, h.has]
  have hu1 : ∀ u, hasB (putR L s e') u = true → u = s ∨ (u ≠ s ∧ hasB L u = true) := fun u hu => by
    by_cases e : u = s
    · exact .inl e
    · rw [has_put h.srtL, decide_eq_false e, Bool.false_or] at hu
      exact .inr ⟨e, hu⟩
  have hat : ∀ u, hasB L u = true → getR M u ≠ es.length := fun u hu => Nat.ne_of_lt (h.ats u (by rw [← h.has]; exact hu))
  refine ⟨h.srtL.put, h.srtM.put, hh, fun u hu => ?_, fun u v hu hv => ?_, fun u hu => ?_⟩
  · rcases hu1 u hu with rfl | ⟨e, hu2⟩
    · rw [get_put_at h.srtL, get_put_at h.srtM, upd_at, eF_app, if_pos rfl]
    · rw [get_put_ne h.srtL e, get_put_ne h.srtM e, upd_ne (hf u hu2), eF_app, if_neg (hat u hu2), h.val u hu2]
  · rcases hu1 u hu with rfl | ⟨e, hu2⟩ <;> rcases hu1 v hv with rfl | ⟨e2, hv2⟩
    · exact ⟨fun _ => rfl, fun _ => rfl⟩
    · rw [get_put_at h.srtL, get_put_at h.srtM, get_put_ne h.srtL e2, get_put_ne h.srtM e2]
      exact ⟨fun e => absurd e.symm (hf v hv2), fun e => absurd e.symm (hat v hv2)⟩
    · rw [get_put_at h.srtL, get_put_at h.srtM, get_put_ne h.srtL e, get_put_ne h.srtM e]
      exact ⟨fun e => absurd e (hf u hu2), fun e => absurd e (hat u hu2)⟩
    · rw [get_put_ne h.srtL e, get_put_ne h.srtM e, get_put_ne h.srtL e2, get_put_ne h.srtM e2]
      exact h.same u v hu2 hv2
  · rw [List.length_append]
    rw [← hh] at hu
    rcases hu1 u hu with rfl | ⟨e, hu2⟩
    · rw [get_put_at h.srtM]; exact Nat.lt_succ_self _
    · rw [get_put_ne h.srtM e]
      exact Nat.lt_succ_of_lt (h.ats u (by rw [← h.has]; exact hu2))
/-- What a deed leaves of the document's store. -/
def docM (M : List Ent) (es : List En) : Chg → List Ent
  | .same => M
  | .put n _ => ptM M es n
  | .del n => delR M n
  | .ren n t => putR (delR M n) t (getR M n)
  | .ali t n => putR M t (getR M n)
def docZ (M : List Ent) (es : List En) : Chg → List En
  | .put n en => ptZ M es n en
  | _ => es
theorem docZ_len (M : List Ent) (es : List En) (c : Chg) : (docZ M es c).length ≤ es.length + 1 := by
  cases c with
  | put n en =>
    show (ptZ M es n en).length ≤ _
    unfold ptZ
    split
    · rw [List.length_set]; omega
    · split
      · rw [List.length_append]; exact Nat.le_refl _
      · omega
  | _ => exact Nat.le_succ _
theorem Sim.ap (h : Sim L E M es) (s t : ByteArray) : apT L E s t = apT M (eF es) s t := by
  unfold apT
  rw [← h.has]
  cases hh : hasB L s
  · rfl
  · rw [h.val s hh]
theorem Sim.ad (h : Sim L E M es) (s : ByteArray) (ls : List Ln) : adL L E s ls = adL M (eF es) s ls := by
  unfold adL
  rw [← h.has]
  cases hh : hasB L s
  · rfl
  · rw [h.val s hh]
theorem Sim.doE (h : Sim L E M es) (d : Dd) : doE L E d = Go.Proofs.YtbedddgfijpbcaaGreat.doE M (eF es) d := by
  unfold Go.Proofs.YtbedddgfijpbcaaGreat.doE dfE apE mcE adE rnE alE fdE putE
  simp only [h.ap, h.ad, h.full, h.has]
theorem Sim.doC (h : Sim L E M es) (d : Dd) : doC L E d = Go.Proofs.YtbedddgfijpbcaaGreat.doC M (eF es) d := by
  have he := h.doE d
  unfold Go.Proofs.YtbedddgfijpbcaaGreat.doE at he
  have hval : ∀ (f : En → En), orSame (fdE L d.name) (.put d.name (f (E (getR L d.name)))) = orSame (fdE M d.name) (.put d.name (f (eF es (getR M d.name)))) := fun f => by
    unfold orSame fdE
    rw [← h.has]
    cases hh : hasB L d.name
    · rfl
    · rw [h.val _ hh]
  unfold Go.Proofs.YtbedddgfijpbcaaGreat.doC
  rw [hval chE, hval (fun en => ptE en d.a d.b)]
  unfold dfE apE mcE adE rnE alE putE
  simp only [h.ap, h.ad, h.full, h.has]
end
end Go.Proofs.YtbedddgfijpbcaaGreat
