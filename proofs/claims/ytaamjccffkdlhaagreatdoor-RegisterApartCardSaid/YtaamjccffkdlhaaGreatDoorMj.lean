/- Walk: the document's Rename. -/
import Derived.Test.YtaamjccffkdlhaaGreatDoorMi
namespace Go.Proofs.YtaamjccffkdlhaaGreatDoor
open Go.RowKit Go.Maps Go.WideMaps Go.Joins

theorem put_del_self {s : ByteArray} : ∀ {L : List Ent}, Srt L → hasB L s = true → putR (delR L s) s (getR L s) = L
  | [], _, h => by simp [hasB, idx] at h
  | p :: t, hS, h => by
    by_cases hp : nlt p.1 s = true
    · rw [has_lt hp] at h
      rw [del_lt hp, get_lt hp, put_lt hp, put_del_self hS.tail_ h]
    · have hp' : nlt p.1 s = false := by simpa using hp
      rw [has_ge hp'] at h
      have e : p.1 = s := by simpa using h
      rw [del_ge hp', get_ge hp', if_pos e, if_pos e]
      cases t with
      | nil =>
        subst e
        rfl
      | cons q t =>
        have hq : nlt s q.1 = true := by rw [← e]; exact hS.head_ q (List.mem_cons_self ..)
        rw [put_ge (bl_asy hq), if_neg (ne_of_nlt hq).symm, ← e]
theorem rn_self {L : List Ent} {s : ByteArray} (hS : Srt L) : rnL L s s = L := by
  unfold rnL rnB
  split
  · rename_i h
    simp only [Bool.and_eq_true] at h
    exact put_del_self hS h.1.2
  · rfl
/-- A step behind a step. -/
theorem RfTo.seq {b k : Nat} {w W w1 w2 w3 : World} {x : Nat} {v v1 : Value} {L L2 : List Ent} (_h : RfAt b w x v L) (hb : Below w.heap.size w W) (hk : w.heap.size ≤ k)
    (h2 : ∀ g, v1.ownBlock = some g → v.ownBlock = some g ∨ W.heap.size ≤ g) (h3 : Turn (fun i => i = x ∨ v.ownBlock = some i) W w1) (ht : Turn (· = k) w1 w2) (h4 : RfTo b w2 x v1 w3 L2) : RfTo b w x v w3 L2 := by
  obtain ⟨v2, q1, q2, q3⟩ := h4
  have hW := hb.size
  have s1 := h3.size
  have s2 := ht.size
  refine ⟨v2, q1, fun g hg => ?_, ?_⟩
  · rcases q2 g hg with e | e
    · rcases h2 g e with e | e
      · exact .inl e
      · exact .inr (by omega)
    · exact .inr (by omega)
  · have t1 : Turn (fun i => i = x ∨ v.ownBlock = some i) w w1 := (Turn.of_below hb : Turn (fun i => i = x ∨ v.ownBlock = some i) w W).trans h3 (fun _ _ h => h)
    have t2 := t1.trans ht (fun i hi e => by omega)
    refine t2.trans q3 (fun i hi e => ?_)
    rcases e with e | e
    · exact .inl e
    · rcases h2 i e with e | e
      · exact .inr e
      · omega
theorem turn_set (w : World) (k : Nat) (u : Value) : Turn (· = k) w (w.setCell ⟨k, 0, none⟩ u) :=
  ⟨rfl, rfl, rfl, by simp [World.setCell], fun i hi hn => Below.heap_setCell _ _ _ _ (fun e => hn e)⟩
theorem own_new {b g : Nat} {w w2 : World} {x : Nat} {v v1 : Value} {L : List Ent} {o : Obj} (h : RfAt b w x v L) (hs : w.heap.size ≤ w2.heap.size)
    (q : ∀ g, v1.ownBlock = some g → v.ownBlock = some g ∨ (w2.alloc o).heap.size ≤ g) (hg : v1.ownBlock = some g) (e : g = w2.heap.size) : False := by
  subst e
  rcases q _ hg with e | e
  · have := own_lt h.own e
    omega
  · simp at e
    omega
theorem not_own {b : Nat} {w w2 : World} {x : Nat} {v : Value} {L : List Ent} (h : RfAt b w x v L) (hs : w.heap.size ≤ w2.heap.size) : ¬ (w2.heap.size = x ∨ v.ownBlock = some w2.heap.size) := by
  have hx := h.blk.lt
  rintro (e | e)
  · omega
  · have := own_lt h.own e
    omega
set_option maxRecDepth 100000 in
set_option maxHeartbeats 1000000 in
/-- Rename, of the document's book. -/
theorem nRename (s t : ByteArray) (hs : s.size ≤ maxLen) (ht : t.size ≤ maxLen) (b x : Nat) (v : Value) (L : List Ent) (hl : L.length ≤ 500) (hS : Srt L) (w : World) (h : RfAt b w x v L) (hbw : b ≤ w.heap.size) :
    Calls Tryz.prog 31 #[.pointer (some ⟨x, 0, none⟩), .string s, .string t] w fun e w' => e = .returned (.int .i64 (rnE L s t)) ∧ RfTo b w x v w' (rnL L s t) := by
  have HN := Lib.hid (fun w => nName s hs w)
  have HT := Lib.hid (fun w => nName t ht w)
  have HH := Lib.hid (nHas s b x v L hl w h)
  have H := Lib.hid h
  have HS : Hid (∀ w', Below w.heap.size w w' → RfTo b w x v w' L) := Lib.hid (fun w' hb => RfTo.stay H.out hb)
  clear h
  cases hn : nameB s
  · have e1 : rnE L s t = 6 := by unfold rnE rnB; rw [hn]; rfl
    have e3 : rnL L s t = L := by unfold rnL rnB; rw [hn]; rfl
    rw [e1, e3]
    clear e1 e3
    rw [hn] at HN
    go_enter Tryz.func31, Tryz.ntmps31
    go_wp2_with (go_at_call 48; with_reducible refine (HN.out _).mono ?_; rintro e w1 ⟨rfl, rfl⟩)
    go_ret
    exact ⟨rfl, HS.out _ (Below.refl _ _)⟩
  · rw [hn] at HN
    cases hnt : nameB t
    · have e1 : rnE L s t = 6 := by unfold rnE rnB; rw [hnt]; simp [erI]
      have e3 : rnL L s t = L := by unfold rnL rnB; rw [hnt]; simp
      rw [e1, e3]
      clear e1 e3
      rw [hnt] at HT
      go_enter Tryz.func31, Tryz.ntmps31
      go_wp2_with (first
        | (go_at_call 48; with_reducible refine (HN.out _).mono ?_; rintro e w1 ⟨rfl, rfl⟩)
        | (go_at_call 48; with_reducible refine (HT.out _).mono ?_; rintro e w1 ⟨rfl, rfl⟩))
      go_ret
      exact ⟨rfl, HS.out _ (Below.refl _ _)⟩
    · rw [hnt] at HT
      cases hh : hasB L s
      · have e1 : rnE L s t = 6 := by unfold rnE rnB; rw [hh]; simp [erI]
        have e3 : rnL L s t = L := by unfold rnL rnB; rw [hh]; simp
        rw [e1, e3]
        clear e1 e3
        rw [hh] at HH
        go_enter Tryz.func31, Tryz.ntmps31
        go_wp2_with (first
          | (go_at_call 48; with_reducible refine (HN.out _).mono ?_; rintro e w1 ⟨rfl, rfl⟩)
          | (go_at_call 48; with_reducible refine (HT.out _).mono ?_; rintro e w1 ⟨rfl, rfl⟩)
          | (go_at_call 53; refine HH.out.mono ?_; rintro e w1 ⟨rfl, hb1⟩))
        go_ret
        exact ⟨rfl, HS.out _ hb1⟩
      · have e1 : rnE L s t = 0 := by unfold rnE rnB; rw [hn, hh, hnt]; rfl
        rw [hh] at HH
        rw [e1]
        clear e1
        by_cases hst : s = t
        · subst hst
          rw [rn_self hS]
          go_enter Tryz.func31, Tryz.ntmps31
          go_wp2_with (first
            | (go_at_call 48; with_reducible refine (HN.out _).mono ?_; rintro e w1 ⟨rfl, rfl⟩)
            | (go_at_call 53; refine HH.out.mono ?_; rintro e w1 ⟨rfl, hb1⟩))
          go_ret
          exact ⟨rfl, HS.out _ hb1⟩
        · have hB : (s.toList == t.toList) = false := by rw [eq_toList]; exact decide_eq_false hst
          have e3 : rnL L s t = putL (delR L s) t (getR L s) := by
            have := len_del_has hh
            have h5 : decide ((delR L s).length < 500) = true := decide_eq_true (by omega)
            unfold rnL rnB putL; rw [hn, hh, hnt, h5]; simp
          have HD := Lib.hid (len_del_has hh)
          rw [e3]
          clear e3 hst
          have HGw := Lib.hid (fun w1 (hb1 : Below w.heap.size w w1) => nGet s b x v L hl w1 (H.out.below hb1))
          have HRm := Lib.hid (fun W (hb : Below w.heap.size w W) => nRemove s hs b x v L hl W (H.out.below hb) (Nat.le_trans hbw hb.size))
          rw [hn] at HRm
          generalize getR L s = R at HGw ⊢
          unfold rVal at HGw
          have HP := Lib.hid (fun v1 w1 h1 h2 => nPut t R b x v1 (delR L s) (by have := HD.out; omega) w1 h1 h2)
          unfold rVal at HP
          have hxl := H.out.blk.lt
          go_enter Tryz.func31, Tryz.ntmps31
          go_wp2_with (first
            | (go_at_call 48; with_reducible refine (HN.out _).mono ?_; rintro e w1 ⟨rfl, rfl⟩)
            | (go_at_call 48; with_reducible refine (HT.out _).mono ?_; rintro e w1 ⟨rfl, rfl⟩)
            | (go_at_call 53; refine HH.out.mono ?_; rintro e w1 ⟨rfl, hb1⟩)
            | (go_at_call 50; refine (HGw.out _ hb1).mono ?_; rintro e w2 ⟨rfl, hb2⟩; have hb3 := Lib.hid (ntrans hb1 hb2))
            | (go_at_call 30; refine (HRm.out _ (hb3.out.alloc hb3.out.size _)).mono ?_; rintro e w4 ⟨rfl, v1, q1, q2, q3⟩; unfold erI; simp only [if_true] at q1; have hz := q3.blk (Blk.new w2 75 _) (not_own H.out hb3.out.size); have d0 := hz.cell 0; have d1 := hz.cell 1; have d2 := hz.cell 2; have d3 := hz.cell 3; have f0 := hz.frozen 0; have Q1 := Lib.hid q1; have Q2 := Lib.hid q2; have Q3 := Lib.hid q3; clear hz q1 q2 q3; simp only [List.getElem?_toArray, List.getElem?_cons_zero, List.getElem?_cons_succ] at d0 d1 d2 d3)
            | (go_at_call 51
               have hTs := Lib.hid (turn_set w4 w2.heap.size (.string t))
               have HQ := Lib.hid (Q1.out.turn hTs.out (fun e => by have := hb3.out.size; omega) (fun g hg e => own_new H.out hb3.out.size Q2.out hg e))
               refine (HP.out v1 _ HQ.out (Nat.le_trans hbw (Nat.le_trans (Nat.le_trans hb3.out.size (by simp)) (Nat.le_trans Q3.out.size hTs.out.size)))).mono ?_
               rintro e w6 ⟨rfl, q6⟩))
          have hpe : putE (delR L s) t = 0 := by
            have := HD.out
            unfold putE
            rw [show decide ((delR L s).length < 500) = true from decide_eq_true (by omega)]; simp
          go_ret
          exact ⟨by rw [hpe]; rfl, RfTo.seq H.out (hb3.out.alloc hb3.out.size _) hb3.out.size Q2.out Q3.out hTs.out q6⟩
end Go.Proofs.YtaamjccffkdlhaaGreatDoor
