/- Walk: cut, of the document's entry. Walk: Chop, of the document's store. -/
import Derived.Test.YtbedddgfijpbcaaGreatRr
import Derived.Deep.RegionLaw
namespace Go.Proofs.YtbedddgfijpbcaaGreat
open Go.RowKit Go.Maps Go.WideMaps

section
variable {K : Nat → Prop} {w w' : World}
theorem cut_kind (en : En) (a b : Nat) : (en.cut a b).kind = en.kind := by cases en <;> rfl
/-- Lines that are a part of lines read as the part. -/
theorem LnsAt.part {A : Option Addr} {n c a b : Nat} {ls : List Ln} (h : LnsAt K w (.slice A n c) ls) (hab : a ≤ b) (hb : b ≤ ls.length) {A' : Option Addr} (hA : a < b → A' = A.map fun x => x.add (a * 5)) : LnsAt K w (.slice A' (b - a) (c - a)) ((ls.take b).drop a) := by
  obtain ⟨A0, c0, e, h1, h2, h3⟩ := h
  injection e with e1 e2 e3
  subst e1 e2 e3
  have hlen : ((ls.take b).drop a).length = b - a := by rw [List.length_drop, List.length_take]; omega
  refine ⟨A', c - a, by rw [hlen], by omega, by omega, fun h0 => ?_⟩
  rw [hlen] at h0
  obtain ⟨g, off, rfl, hk, hr⟩ := h3 (by omega)
  refine ⟨g, off + a * 5, by rw [hA (by omega), Option.map_some, Addr.add_lit], hk, fun i l hi => ?_⟩
  rw [List.getElem?_drop, List.getElem?_take] at hi
  split at hi
  · have := hr (a + i) l hi
    rwa [show off + (a + i) * 5 = off + a * 5 + i * 5 by omega] at this
  · cases hi
set_option maxRecDepth 100000 in
set_option maxHeartbeats 1000000 in
/-- cut, of a string. -/
theorem nCutS (t : ByteArray) (v : Value) (a b : Nat) (hab : a ≤ b) (hb : b ≤ t.size) (ht : t.size ≤ 2000) (h : LnsAt K w v (enL (.str t))) :
    Calls Tryz.prog 59 #[.agg #[.int .i64 1, v], .int .i64 (a : Nat), .int .i64 (b : Nat)] w fun e w' => ∃ A n c, e = .returned (.agg #[.int .i64 1, .slice A n c]) ∧ LnsAt (fun i => K i ∨ w.heap.size ≤ i ∧ i < w'.heap.size) w' (.slice A n c) (enL (.str (t.extract a b))) ∧ Below w.heap.size w w' := by
  have hb2 : Below w.heap.size w ((w.alloc (.cells #[.int .i64 1, v] 62)).alloc (.cells #[.int .i64 0, .slice none 0 0] 62)) := ((Below.refl _ _).alloc (Nat.le_refl _) _).alloc (by simp) _
  obtain ⟨g2, o2, cc, rfl, hcc, e0⟩ := one_ln (h.stay (K' := K) (Kept.of_all hb2) (fun _ h => h))
  have hbk := (Blk.new w 62 #[.int .i64 1, .slice (some ⟨g2, o2, none⟩) 1 cc]).alloc (.cells #[.int .i64 0, .slice none 0 0] 62)
  have p0 := hbk.cell 0
  have p1 := hbk.cell 1
  simp only [List.getElem?_toArray, List.getElem?_cons_zero, List.getElem?_cons_succ] at p0 p1
  have hab' : (a : Int) ≤ (b : Int) := by omega
  have hb' : (b : Int) ≤ (t.size : Nat) := by omega
  have hs1 : (w.alloc (.cells #[.int .i64 1, .slice (some ⟨g2, o2, none⟩) 1 cc] 62)).heap.size = w.heap.size + 1 := by simp
  have HR : Hid (∀ V : ByteArray, V.size ≤ 140737488351232 → Blk (((w.alloc (.cells #[.int .i64 1, .slice (some ⟨g2, o2, none⟩) 1 cc] 62)).alloc (.cells #[.int .i64 1, .slice (some ⟨w.heap.size + 1 + 1, 0, none⟩) 1 1] 62)).alloc (.cells #[.string V, .bool false, .int .i64 0, .int .i64 0, .slice none 0 0] 39)) (w.heap.size + 1) 62 #[.int .i64 1, .slice (some ⟨w.heap.size + 1 + 1, 0, none⟩) 1 1] ∧
      LnsAt (fun i => K i ∨ w.heap.size ≤ i ∧ i < (((w.alloc (.cells #[.int .i64 1, .slice (some ⟨g2, o2, none⟩) 1 cc] 62)).alloc (.cells #[.int .i64 1, .slice (some ⟨w.heap.size + 1 + 1, 0, none⟩) 1 1] 62)).alloc (.cells #[.string V, .bool false, .int .i64 0, .int .i64 0, .slice none 0 0] 39)).heap.size) (((w.alloc (.cells #[.int .i64 1, .slice (some ⟨g2, o2, none⟩) 1 cc] 62)).alloc (.cells #[.int .i64 1, .slice (some ⟨w.heap.size + 1 + 1, 0, none⟩) 1 1] 62)).alloc (.cells #[.string V, .bool false, .int .i64 0, .int .i64 0, .slice none 0 0] 39)) (.slice (some ⟨w.heap.size + 1 + 1, 0, none⟩) 1 1) (enL (.str V)) ∧
      Below w.heap.size w (((w.alloc (.cells #[.int .i64 1, .slice (some ⟨g2, o2, none⟩) 1 cc] 62)).alloc (.cells #[.int .i64 1, .slice (some ⟨w.heap.size + 1 + 1, 0, none⟩) 1 1] 62)).alloc (.cells #[.string V, .bool false, .int .i64 0, .int .i64 0, .slice none 0 0] 39))) := Lib.hid (fun V hV => by
    have q1 := (Blk.new (w.alloc (.cells #[.int .i64 1, .slice (some ⟨g2, o2, none⟩) 1 cc] 62)) 62 #[.int .i64 1, .slice (some ⟨w.heap.size + 1 + 1, 0, none⟩) 1 1]).alloc (.cells #[.string V, .bool false, .int .i64 0, .int .i64 0, .slice none 0 0] 39)
    have q2 := Blk.new ((w.alloc (.cells #[.int .i64 1, .slice (some ⟨g2, o2, none⟩) 1 cc] 62)).alloc (.cells #[.int .i64 1, .slice (some ⟨w.heap.size + 1 + 1, 0, none⟩) 1 1] 62)) 39 #[.string V, .bool false, .int .i64 0, .int .i64 0, .slice none 0 0]
    rw [hs1] at q1
    rw [show ((w.alloc (.cells #[.int .i64 1, .slice (some ⟨g2, o2, none⟩) 1 cc] 62)).alloc (.cells #[.int .i64 1, .slice (some ⟨w.heap.size + 1 + 1, 0, none⟩) 1 1] 62)).heap.size = w.heap.size + 1 + 1 by simp] at q2
    refine ⟨q1, ⟨_, 1, rfl, Nat.le_refl _, by unfold maxLen; omega, fun _ => ⟨_, 0, rfl, .inr ⟨by omega, q2.lt⟩, fun i l hi => ?_⟩⟩, (((Below.refl _ _).alloc (Nat.le_refl _) _).alloc (by simp) _).alloc (by simp; omega) _⟩
    have hi0 : i = 0 := by
      have := (List.getElem?_eq_some_iff.1 hi).1
      change i < 1 at this
      omega
    subst hi0
    have hl : tLn V = l := by
      change some (tLn V) = some l at hi
      injection hi
    subst hl
    exact ⟨q2.cell 0, q2.cell 1, q2.cell 2, q2.cell 3, ⟨_, q2.cell 4, RowAt.nil⟩, hV, Nat.zero_le _⟩)
  have hV : (t.extract a b).size ≤ 140737488351232 := by
    rw [extract_size _ _ _ hb]; omega
  clear hbk h hb2 hs1
  go_enter Tryz.func59, Tryz.ntmps59
  go_wp2_with fail
  obtain ⟨q1, q2, q3⟩ := HR.out _ hV
  refine bodyPost_ret (results_cell_row rfl _ _ (w.heap.size + 1) 62 _ (0, 0) _ rfl q1 Tryz.underlying62 rfl (by kernel_rfl)) rfl ?_
  exact ⟨_, _, _, rfl, q2, q3⟩
set_option maxRecDepth 100000 in
/-- append, of lines that are read, onto none. -/
theorem appNew (W : World) (ty : TypeId) (g : Nat) {v2 : Value} {ls2 : List Ln} (h2 : LnsAt K W v2 ls2) (hl : ls2.length ≤ 1000000) (hK : ∀ i, K i → i < W.heap.size) :
    ∃ A' c' w' r', (Builtin.append_ #[31, 31] ty #[.slice (some ⟨g, 0, none⟩) 0 0, v2]).run Tryz.prog W = .ok (.slice A' ls2.length c') w' ∧ OwnLns r' K w' (.slice A' ls2.length c') ls2 ∧ Below W.heap.size W w' ∧ ∀ i, r' = some i → W.heap.size ≤ i ∧ i < w'.heap.size ∧ ¬ K i := by
  have h0 : OwnLns none (fun _ => False) W (.slice (some ⟨g, 0, none⟩) 0 0) [] := ⟨_, 0, rfl, Nat.le_refl _, Nat.zero_le _, fun _ => rfl, fun h => absurd h (Nat.lt_irrefl 0)⟩
  obtain ⟨A', c', w', r', q1, q2, q3, q4⟩ := runAppL W ty h0 h2 (by simpa using hl) (fun i hi => by cases hi) (fun i hi => by
    rcases hi with hi | hi
    · cases hi
    · exact hK i hi)
  rw [List.length_nil, Nat.zero_add] at q1 q2
  rw [List.nil_append] at q2
  refine ⟨A', c', w', r', q1, q2.stay (fun _ _ _ => rfl) (fun i hi => hi.elim (fun h => h.elim) id), ⟨q3.os, q3.tape, q3.output, q3.size, fun i hi => q3.block i hi (by simp)⟩, fun i hi => ?_⟩
  obtain ⟨e1, e2, e3⟩ := q4 i hi
  exact ⟨e1.elim (fun h => by cases h) id, e2, fun h => e3 (.inr h)⟩
/-- What cut leaves of lines. -/
def CutTo (K : Nat → Prop) (w w1 : World) (A' : Option Addr) (n c' : Nat) (ls : List Ln) : Prop :=
  Blk w1 (w.heap.size + 1) 62 #[.int .i64 0, .slice none 0 0] ∧ ∀ w2, Turn (· = w.heap.size + 1) w1 w2 → LnsAt (fun i => K i ∨ w.heap.size ≤ i ∧ i < w2.heap.size) w2 (.slice A' n c') ls ∧ Below w.heap.size w w2
theorem cutRun (w : World) (cs : Array Value) (v2 : Value) (ls2 : List Ln) (h : LnsAt K w v2 ls2) (hl : ls2.length ≤ 1000000) (hK : ∀ i, K i → i < w.heap.size) (ty : TypeId) :
    ∃ A' c' w1, (Builtin.append_ #[31, 31] ty #[.slice (some ⟨w.heap.size + 1 + 1, 0, none⟩) 0 0, v2]).run Tryz.prog (((w.alloc (.cells cs 62)).alloc (.cells #[.int .i64 0, .slice none 0 0] 62)).alloc (.cells #[] 39)) = .ok (.slice A' ls2.length c') w1 ∧
      CutTo K w w1 A' ls2.length c' ls2 := by
  have hb3 : Below w.heap.size w (((w.alloc (.cells cs 62)).alloc (.cells #[.int .i64 0, .slice none 0 0] 62)).alloc (.cells #[] 39)) := (((Below.refl _ _).alloc (Nat.le_refl _) _).alloc (by simp) _).alloc (by simp; omega) _
  obtain ⟨A', c', w1, r', q1, q2, q3, q4⟩ := appNew (K := K) _ ty (w.heap.size + 1 + 1) (h.stay (Kept.of_all hb3) (fun _ h => h)) hl (fun i hi => Nat.lt_of_lt_of_le (hK i hi) hb3.size)
  have hs : (((w.alloc (.cells cs 62)).alloc (.cells #[.int .i64 0, .slice none 0 0] 62)).alloc (.cells #[] 39)).heap.size = w.heap.size + 3 := by simp
  have hbk := (Blk.new (w.alloc (.cells cs 62)) 62 #[.int .i64 0, .slice none 0 0]).alloc (.cells #[] 39)
  rw [show (w.alloc (.cells cs 62)).heap.size = w.heap.size + 1 by simp] at hbk
  refine ⟨A', c', w1, q1, (q3.block _ hbk.lt).trans hbk, fun w2 hT => ⟨?_, ?_⟩⟩
  · have hz := hT.size
    refine LnsAt.stay (K := fun i => K i ∨ w.heap.size + 3 ≤ i ∧ i < w1.heap.size) (q2.rd (fun i hi => .inr ⟨by have := (q4 i hi).1; omega, (q4 i hi).2.1⟩) (fun i hi => .inl hi)) (Kept.of_turn hT (fun i hi e => ?_)) (fun i hi => hi.imp id (fun h => ⟨by omega, by omega⟩))
    rcases hi with hi | hi
    · have := hK i hi; omega
    · omega
  · have hz := q3.size
    exact hT.below (hb3.trans (q3.mono hb3.size)) (by omega) (fun i e => by omega)
theorem CutTo.fin {w1 : World} {A' : Option Addr} {n c' : Nat} {ls : List Ln} (h : CutTo K w w1 A' n c' ls) : w1.cell? ⟨w.heap.size + 1, 0, none⟩ = some (.int .i64 0) ∧ w1.frozen? ⟨w.heap.size + 1, 0, none⟩ = false ∧ (w1.setCell ⟨w.heap.size + 1, 0, none⟩ (.int .i64 2)).cell? ⟨w.heap.size + 1, 1, none⟩ = some (.slice none 0 0) ∧ (w1.setCell ⟨w.heap.size + 1, 0, none⟩ (.int .i64 2)).frozen? ⟨w.heap.size + 1, 1, none⟩ = false ∧
    Blk ((w1.setCell ⟨w.heap.size + 1, 0, none⟩ (.int .i64 2)).setCell ⟨w.heap.size + 1, 1, none⟩ (.slice A' n c')) (w.heap.size + 1) 62 #[.int .i64 2, .slice A' n c'] ∧
    LnsAt (fun i => K i ∨ w.heap.size ≤ i ∧ i < ((w1.setCell ⟨w.heap.size + 1, 0, none⟩ (.int .i64 2)).setCell ⟨w.heap.size + 1, 1, none⟩ (.slice A' n c')).heap.size) ((w1.setCell ⟨w.heap.size + 1, 0, none⟩ (.int .i64 2)).setCell ⟨w.heap.size + 1, 1, none⟩ (.slice A' n c')) (.slice A' n c') ls ∧ Below w.heap.size w ((w1.setCell ⟨w.heap.size + 1, 0, none⟩ (.int .i64 2)).setCell ⟨w.heap.size + 1, 1, none⟩ (.slice A' n c')) := by
  have hT := (turn_set w1 (w.heap.size + 1) 0 (.int .i64 2)).trans (turn_set _ (w.heap.size + 1) 1 (.slice A' n c')) (fun _ _ h => h)
  have h1 := blk_set h.1 (o := 0) (.int .i64 2)
  exact ⟨h.1.cell 0, h.1.frozen 0, h1.cell 1, h1.frozen 1, blk_set h1 (o := 1) _, h.2 _ hT⟩
set_option maxRecDepth 100000 in
set_option maxHeartbeats 1000000 in
/-- cut, of lines. -/
theorem nCutM (A : Option Addr) (c a b : Nat) (ls : List Ln) (hab : a ≤ b) (hb : b ≤ ls.length) (hl : ls.length ≤ 2000) (h : LnsAt K w (.slice A ls.length c) ls) (hK : ∀ i, K i → i < w.heap.size) :
    Calls Tryz.prog 59 #[.agg #[.int .i64 2, .slice A ls.length c], .int .i64 (a : Nat), .int .i64 (b : Nat)] w fun e w' => ∃ A' n c', e = .returned (.agg #[.int .i64 2, .slice A' n c']) ∧ LnsAt (fun i => K i ∨ w.heap.size ≤ i ∧ i < w'.heap.size) w' (.slice A' n c') ((ls.take b).drop a) ∧ Below w.heap.size w w' := by
  have hbk := (Blk.new w 62 #[.int .i64 2, .slice A ls.length c]).alloc (.cells #[.int .i64 0, .slice none 0 0] 62)
  have p0 := hbk.cell 0
  have p1 := hbk.cell 1
  simp only [List.getElem?_toArray, List.getElem?_cons_zero, List.getElem?_cons_succ] at p0 p1
  have hab' : (a : Int) ≤ (b : Int) := by omega
  have hc : ls.length ≤ c := by
    obtain ⟨_, _, e, h1, _⟩ := h
    injection e with _ _ e
    omega
  have hb' : (b : Int) ≤ (c : Nat) := by omega
  have hlen : ((ls.take b).drop a).length = b - a := by rw [List.length_drop, List.length_take]; omega
  clear hbk
  by_cases hca : c = a
  · subst hca
    have hp := h.part hab hb (A' := A) (fun h => by omega)
    rw [Nat.sub_self] at hp
    obtain ⟨A', c', w1, hrun, hct⟩ := cutRun (K := K) w #[.int .i64 2, .slice A ls.length c] _ _ hp (by omega) hK 31
    rw [hlen] at hrun hct
    obtain ⟨s0, s1, s2, s3, s4, s5, s6⟩ := hct.fin
    have HS5 := Lib.hid s5
    have HS4 := Lib.hid s4
    have HS6 := Lib.hid s6
    have HRun := Lib.hid hrun
    clear hp hct h s4 s5 s6 hrun hlen
    go_enter Tryz.func59, Tryz.ntmps59
    go_wp2_with (at_builtin; refine wpList_append_run _ rfl (.tmp 21) (.tmp 26) _ rfl _ _ rfl rfl _ _ HRun.out ?_)
    refine bodyPost_ret (results_cell_row rfl _ _ (w.heap.size + 1) 62 _ (0, 0) _ rfl HS4.out Tryz.underlying62 rfl (by kernel_rfl)) rfl ?_
    exact ⟨_, _, _, rfl, HS5.out, HS6.out⟩
  · have hp := h.part hab hb (A' := A.map fun x => x.add (a * 5)) (fun _ => rfl)
    obtain ⟨A', c', w1, hrun, hct⟩ := cutRun (K := K) w #[.int .i64 2, .slice A ls.length c] _ _ hp (by omega) hK 31
    rw [hlen] at hrun hct
    obtain ⟨s0, s1, s2, s3, s4, s5, s6⟩ := hct.fin
    have HS5 := Lib.hid s5
    have HS4 := Lib.hid s4
    have HS6 := Lib.hid s6
    have HRun := Lib.hid hrun
    clear hp hct h s4 s5 s6 hrun hlen
    go_enter Tryz.func59, Tryz.ntmps59
    go_wp2_with (at_builtin; refine wpList_append_run _ rfl (.tmp 21) (.tmp 26) _ rfl _ _ rfl rfl _ _ HRun.out ?_)
    refine bodyPost_ret (results_cell_row rfl _ _ (w.heap.size + 1) 62 _ (0, 0) _ rfl HS4.out Tryz.underlying62 rfl (by kernel_rfl)) rfl ?_
    exact ⟨_, _, _, rfl, HS5.out, HS6.out⟩
theorem cut_ok {en : En} {a b : Nat} (h : okE en) (hb : b ≤ en.size) : okE (en.cut a b) := by
  cases en with
  | str t =>
    show (t.extract a b).size ≤ 2000
    rw [extract_size _ _ _ hb]
    have h : t.size ≤ 2000 := h
    have hb : b ≤ t.size := hb
    omega
  | mac ls =>
    show ((ls.take b).drop a).length ≤ 2000
    rw [List.length_drop, List.length_take]
    have h : ls.length ≤ 2000 := h
    omega
/-- cut. -/
theorem nCut (en : En) (v : Value) (a b : Nat) (hab : a ≤ b) (hb : b ≤ en.size) (ho : okE en) (h : LnsAt K w v (enL en)) (hK : ∀ i, K i → i < w.heap.size) :
    Calls Tryz.prog 59 #[.agg #[.int .i64 en.kind, v], .int .i64 (a : Nat), .int .i64 (b : Nat)] w fun e w' => ∃ A n c, e = .returned (.agg #[.int .i64 en.kind, .slice A n c]) ∧ LnsAt (fun i => K i ∨ w.heap.size ≤ i ∧ i < w'.heap.size) w' (.slice A n c) (enL (en.cut a b)) ∧ Below w.heap.size w w' := by
  cases en with
  | str t => exact nCutS t v a b hab hb ho h
  | mac ls =>
    obtain ⟨A, c, rfl, _⟩ := id h
    exact nCutM A c a b ls hab hb ho h hK
end
end Go.Proofs.YtbedddgfijpbcaaGreat
namespace Go.Proofs.YtbedddgfijpbcaaGreat
open Go.RowKit Go.Maps Go.WideMaps

section
variable {U K : Nat → Prop} {w w' : World} {x : Nat} {M : List Ent} {es : List En}
theorem kept_0 {en : En} (h : en.size = 0) : chE en = en := by
  unfold chE En.kept kBeg kEnd
  rw [h]
  cases en with
  | str t =>
    have ht : t.size = 0 := h
    show En.str (t.extract 0 0) = En.str t
    congr 1
    apply ByteArray.ext
    apply Array.ext'
    have h1 : (t.extract 0 0).size = 0 := by rw [extract_size _ _ _ (Nat.zero_le _)]
    have e1 : (t.extract 0 0).data.toList = [] := List.length_eq_zero_iff.1 h1
    have e2 : t.data.toList = [] := List.length_eq_zero_iff.1 ht
    rw [e1, e2]
  | mac ls =>
    have ht : ls.length = 0 := h
    have : ls = [] := List.length_eq_zero_iff.1 ht
    subst this; rfl
theorem kept_ch {en : En} (h : 0 < en.size) : chE en = en.cut 0 (en.size - 1) := by
  unfold chE En.kept kBeg kEnd
  congr 1 <;> omega
set_option maxRecDepth 100000 in
set_option maxHeartbeats 1000000 in
/-- Chop. -/
theorem nChop (s : ByteArray) (h : RSt U K w x M es) :
    Calls Tryz.prog 31 #[.pointer (some ⟨x, 0, none⟩), .string s] w fun e w' => e = .returned (.int .i64 (fdE M s)) ∧ RTo U K w w' x M (if hasB M s then es.set (getR M s) (chE (eF es (getR M s))) else es) := by
  have hT := nThere s h
  unfold fdE at hT ⊢
  cases hh : hasB M s
  · rw [hh] at hT
    simp only [Bool.false_eq_true, if_false] at hT ⊢
    have HT := Lib.hid hT
    have HS := Lib.hid (RTo.same h (Below.refl _ w))
    clear hT h
    go_enter Tryz.func31, Tryz.ntmps31
    go_wp2_with (go_at_call 56; refine HT.out.mono ?_; rintro e w1 ⟨rfl, rfl⟩)
    go_ret
    exact ⟨rfl, HS.out⟩
  · rw [hh] at hT
    simp only [if_true] at hT ⊢
    have HT := Lib.hid hT
    have hat := h.at_ hh
    obtain ⟨k, hk⟩ : ∃ k : Nat, getR M s = k := ⟨_, rfl⟩
    simp only [hk] at HT hat ⊢
    have hat : @LT.lt Nat _ k es.length := hat
    obtain ⟨g, c, v, c2, hc, d0, d1, hl, ho⟩ := h.q2 k hat
    have HZ := Lib.hid (nSize _ v hl h.sets.2.2)
    obtain ⟨A, nn, cc, rfl⟩ : ∃ A n c, v = .slice A n c := by
      obtain ⟨A, c, e, _⟩ := hl
      exact ⟨A, _, c, e⟩
    have hsz : (eF es k).size ≤ 2000 := by
      cases hE : eF es k with
      | str t => rw [hE] at ho; exact ho
      | mac ls => rw [hE] at ho; exact ho
    by_cases hz : (eF es k).size = 0
    · have e1 : es.set k (chE (eF es k)) = es := by
        rw [kept_0 hz]
        unfold eF
        rw [List.getD_eq_getElem?_getD, List.getElem?_eq_getElem hat]
        exact List.set_getElem_self hat
      rw [e1]
      have HS := Lib.hid (fun w' (hb : Below w.heap.size w w') => RTo.same h hb)
      rw [hz] at HZ
      clear hT h hk hh hl e1 hsz hz
      generalize (eF es k).kind = kd at *
      go_enter Tryz.func31, Tryz.ntmps31
      go_wp2_with (first
        | (go_at_call 56; refine HT.out.mono ?_; rintro e w1 ⟨rfl, rfl⟩)
        | (go_at_call 58; refine HZ.out.mono ?_; rintro e w2 ⟨rfl, hb2⟩))
      go_ret
      exact ⟨rfl, HS.out _ hb2⟩
    · have e1 := kept_ch (en := eF es k) (by omega)
      obtain ⟨m, hm⟩ : ∃ m, (eF es k).size = m + 1 := ⟨(eF es k).size - 1, by omega⟩
      rw [show (eF es k).size - 1 = m by omega] at e1
      rw [hm] at HZ
      have hm2 : m ≤ 2000 := by omega
      obtain ⟨cur, hbg⟩ := h.blkE hat c2
      have HCut := Lib.hid (fun (w1 : World) (hb : Below w.heap.size w w1) => show Calls Tryz.prog 59 #[.agg #[.int .i64 (eF es k).kind, .slice A nn cc], .int .i64 0, .int .i64 (m : Nat)] w1 _ from nCut (K := K) (eF es k) (.slice A nn cc) 0 m (Nat.zero_le _) (by omega) ho (hl.stay (Kept.of_all hb) (fun _ h => h)) (fun i hi => Nat.lt_of_lt_of_le (h.sets.2.2 i hi) hb.size))
      have HC2 := Lib.hid (fun (w1 : World) (hb : Below w.heap.size w w1) => (⟨(hb.cell (p := ⟨x, 2, none⟩) (cell_lt c2)).trans c2, (hb.cell (p := ⟨g, k * 2, none⟩) (cell_lt d0)).trans d0, (hb.cell (p := ⟨g, k * 2 + 1, none⟩) (cell_lt d1)).trans d1⟩ : w1.cell? ⟨x, 2, none⟩ = some (.slice (some ⟨g, 0, none⟩) es.length c) ∧ w1.cell? ⟨g, k * 2, none⟩ = some (.int .i64 (eF es k).kind) ∧ w1.cell? ⟨g, k * 2 + 1, none⟩ = some (.slice A nn cc)))
      have HSet := Lib.hid (fun (w1 w3 : World) (A2 : Option Addr) (n2 c2' : Nat) (hb1 : Below w.heap.size w w1) (hb : Below w1.heap.size w1 w3) (hl2 : LnsAt (fun i => K i ∨ w1.heap.size ≤ i ∧ i < w3.heap.size) w3 (.slice A2 n2 c2') (enL ((eF es k).cut 0 m))) =>
        h.setAt (en := (eF es k).cut 0 m) hat c2 (ntrans hb1 hb) (hl2.stay (fun _ _ _ => rfl) (fun i hi => hi.imp id (fun h => ⟨Nat.le_trans hb1.size h.1, h.2⟩))) (cut_ok ho (by omega)))
      rw [cut_kind] at HSet
      rw [e1]
      generalize hkd : (eF es k).kind = kd at *
      have hw : IntKind.i64.wrap (m : Int) = (m : Int) := IntWalk.i64_in _ (by omega)
      clear hT h hk hh hl e1 hz hm hkd hbg hsz
      go_enter Tryz.func31, Tryz.ntmps31
      go_wp2_with (first
        | (go_at_call 56; refine HT.out.mono ?_; rintro e w1 ⟨rfl, rfl⟩)
        | (go_at_call 58; refine HZ.out.mono ?_; rintro e w2 ⟨rfl, hb2⟩; obtain ⟨x2, y0, y1⟩ := HC2.out _ hb2))
      have HB2 := Lib.hid hb2
      go_region_law
        (first
          | (go_simp; go_at_call 59; refine (HCut.out _ (ntrans HB2.out ((Below.refl _ _).drew))).mono ?_; rintro r w3 ⟨A3, n3, c3, rfl, hl3, hb3⟩; have hb3' : Below w2.heap.size w2 w3 := ((Below.refl w2.heap.size w2).drew).trans hb3; obtain ⟨z2, z0, z1⟩ := HC2.out _ (ntrans HB2.out hb3'); obtain ⟨⟨v0, v1, b0, b1⟩, f0, f1, hR⟩ := HSet.out w2 w3 A3 n3 c3 HB2.out hb3' hl3))
      all_goals
        have HR := Lib.hid hR
        clear hR
        go_wp2
        go_ret
        exact ⟨rfl, HR.out⟩
end
end Go.Proofs.YtbedddgfijpbcaaGreat
