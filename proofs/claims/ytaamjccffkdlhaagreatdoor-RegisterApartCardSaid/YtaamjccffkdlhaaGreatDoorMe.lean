/- Walks: the document's put, where the register is new. -/
import Derived.Test.YtaamjccffkdlhaaGreatDoorMd
import Derived.Laws.AppendOwnNone
import Derived.Lib.SmallJoins
namespace Go.Proofs.YtaamjccffkdlhaaGreatDoor
open Go.RowKit Go.Maps Go.WideMaps Go.Joins

theorem reg_info : (Tryz.prog.info? 75).map (fun i => (i.zero, i.size, i.bytes)) = some (some (.agg #[.string ⟨#[]⟩, .int .i64 0, .int .i64 0, .string ⟨#[]⟩]), 4, 48) := by kernel_rfl
theorem one_rcs (L : List Ent) : ∀ u ∈ rcs L, u.oneCell' = true := by
  intro u hu
  obtain ⟨p, _, hp⟩ := List.mem_flatMap.1 hu
  simp only [regCells, List.mem_cons, List.not_mem_nil, or_false] at hp
  rcases hp with rfl | rfl | rfl | rfl <;> rfl
theorem off_add (g i j : Nat) : (⟨g, i, none⟩ : Addr).add j = ⟨g, i + j, none⟩ := by
  unfold Addr.add
  split
  · rename_i h
    subst h; rfl
  · rfl
theorem RfAt.takeCells {b : Nat} {w : World} {x g cap k : Nat} {L : List Ent} (h : RfAt b w x (.slice (some ⟨g, 0, none⟩) L.length cap) L) (hk : k ≤ L.length) :
    ∀ j u, (rcs (L.take k))[j]? = some u → w.cell? ((⟨g, 0, none⟩ : Addr).add j) = some u := by
  intro j u hu
  rw [off_add, Nat.zero_add]
  have hj : j < k * 4 := by
    have := (List.getElem?_eq_some_iff.1 hu).1
    rw [rcs_len, List.length_take] at this
    have : min k L.length ≤ k := Nat.min_le_left ..
    omega
  rw [h.own.cellAt j (by omega)]
  rw [← rcs_take, List.getElem?_take, if_pos hj] at hu
  exact hu
theorem RfAt.dropCells {b : Nat} {w : World} {x g cap k : Nat} {L : List Ent} (h : RfAt b w x (.slice (some ⟨g, 0, none⟩) L.length cap) L) :
    ∀ j u, (rcs (L.drop k))[j]? = some u → w.cell? ((⟨g, k * 4, none⟩ : Addr).add j) = some u := by
  intro j u hu
  rw [off_add]
  have hj : k * 4 + j < L.length * 4 := by
    have := (List.getElem?_eq_some_iff.1 hu).1
    rw [rcs_len, List.length_drop] at this
    omega
  rw [h.own.cellAt _ hj]
  rw [← rcs_drop, List.getElem?_drop] at hu
  exact hu
theorem cells_new {w : World} {g : Nat} {s : ByteArray} {r : Reg} {t : TypeId} (h : Blk w g t #[.string s, .int .i64 r.v, .int .i64 r.s, .string r.f]) : ∀ j u, (rcs [(s, r)])[j]? = some u → w.cell? ((⟨g, 0, none⟩ : Addr).add j) = some u := by
  intro j u hu
  rw [off_add, Nat.zero_add, h.cell j]
  rw [List.getElem?_toArray]
  exact hu
theorem own_form {w : World} {b n size : Nat} {t : TypeId} {v : Value} {xs : List Value} (h : w.ownsRow b t size v n xs) : ∃ A c, v = .slice A n c := by
  rcases h.2 with ⟨rfl, e⟩ | ⟨g, cap, cur, rfl, _⟩
  · exact ⟨none, 0, by rw [e]⟩
  · exact ⟨_, cap, rfl⟩
theorem drop_none {w : World} {ad : Addr} {k : Nat} {L : List Ent} (h : L.length ≤ k) : ∀ j u, (rcs (L.drop k))[j]? = some u → w.cell? (ad.add j) = some u := by
  intro j u hu
  rw [List.drop_of_length_le h] at hu
  simp [rcs] at hu
theorem row3 {w1 w2 w3 : World} {v1 v2 v3 : Value} {o : Obj} (h1 : v1.ownBlock = (Value.slice (some ⟨w1.heap.size, 0, none⟩) 0 0).ownBlock ∨ v1.ownBlock = some (w1.alloc (.cells #[] 75)).heap.size)
    (h2 : v2.ownBlock = v1.ownBlock ∨ v2.ownBlock = some (w2.alloc o).heap.size) (h3 : v3.ownBlock = v2.ownBlock ∨ v3.ownBlock = some w3.heap.size) (hs2 : w1.heap.size ≤ w2.heap.size) (hs3 : w1.heap.size ≤ w3.heap.size) :
    ∀ g, v3.ownBlock = some g → w1.heap.size ≤ g := by
  intro g hg
  rcases h3 with h3 | h3
  · rw [h3] at hg
    rcases h2 with h2 | h2
    · rw [h2] at hg
      rcases h1 with h1 | h1
      · rw [h1] at hg; simp [Value.ownBlock] at hg; omega
      · rw [h1] at hg; simp at hg; omega
    · rw [h2] at hg; simp at hg; omega
  · rw [h3] at hg; simp at hg; omega
theorem own_base {w : World} {b b' n size : Nat} {t : TypeId} {v : Value} {xs : List Value} (h : w.ownsRow b t size v n xs) (hb : b' ≤ b) : w.ownsRow b' t size v n xs := by
  refine ⟨h.1, ?_⟩
  rcases h.2 with h | ⟨g, cap, cur, hv, hg, hr⟩
  · exact .inl h
  · exact .inr ⟨g, cap, cur, hv, by omega, hr⟩
theorem RfTo.laid {b : Nat} {w w4 : World} {x B n n' c : Nat} {v : Value} {A : Option Addr} {xs : List Value} {L L' : List Ent} (H : RfAt b w x v L) (hbw : b ≤ w.heap.size) (hb : Below w.heap.size w w4) (hB : w.heap.size ≤ B)
    (ho : w4.ownsRow B 75 4 (.slice A n c) n xs) (hr : ∀ g, (Value.slice A n c).ownBlock = some g → B ≤ g) (hxs : xs = rcs L') (hn : n = L'.length) (hn' : n' = L'.length) :
    RfTo b w x v (w4.setCell ⟨x, 0, none⟩ (.slice A n' c)) L' := by
  subst hn hn' hxs
  have hx := H.blk.lt
  have hT : Turn (· = x) w4 (w4.setCell ⟨x, 0, none⟩ (.slice A L'.length c)) := ⟨rfl, rfl, rfl, by simp [World.setCell], fun i hi hn => Below.heap_setCell _ _ _ _ (fun e => hn e)⟩
  refine ⟨.slice A L'.length c, ⟨(H.below hb).blk.set_ 0 _, own_base (own_turn ho hT (fun g hg e => ?_)) (by omega)⟩, fun g hg => .inr (Nat.le_trans hB (hr g hg)), ?_⟩
  · have := hr g hg
    omega
  · exact (Turn.of_below hb : Turn (fun i => i = x ∨ v.ownBlock = some i) w w4).trans hT (fun i _ e => .inl e)
set_option maxRecDepth 100000 in
/-- put, where there is no room. -/
theorem nPutFull (s : ByteArray) (r : Reg) (b x : Nat) (v : Value) (L : List Ent) (hl : L.length ≤ 500) (hh : hasB L s = false) (hr : ¬ L.length < 500) (w : World) (h : RfAt b w x v L) :
    Calls Tryz.prog 51 #[.pointer (some ⟨x, 0, none⟩), rVal s r] w fun e w' => e = .returned (.int .i64 9) ∧ RfTo b w x v w' L := by
  have hB0 := (Below.refl w.heap.size w).alloc (Nat.le_refl _) (.cells #[.string s, .int .i64 r.v, .int .i64 r.s, .string r.f] 75)
  have h1 := h.below hB0
  have HA := Lib.hid (cAt s b x v L hl _ h1)
  have HB0 := Lib.hid hB0
  have H := Lib.hid h
  have HH := Lib.hid h1
  clear h hB0
  obtain ⟨A, cap, rfl, hcap, hA⟩ := h1.form
  rw [hh] at HA
  clear h1 hA hh
  unfold rVal
  go_enter Tryz.func51, Tryz.ntmps51
  go_wp2_with (go_at_call 54; refine HA.out.mono ?_; rintro e w1 ⟨rfl, hb1⟩; have c0 := (HH.out.below hb1).c0)
  go_ret
  exact ⟨rfl, RfTo.stay H.out (HB0.out.trans (hb1.mono (by simp)))⟩
set_option maxRecDepth 100000 in
set_option maxHeartbeats 1000000 in
/-- put, where the register is new and the list is a row. -/
theorem nPutNew (s : ByteArray) (r : Reg) (b x g cap : Nat) (L : List Ent) (hh : hasB L s = false) (hr : L.length < 500) (w : World) (h : RfAt b w x (.slice (some ⟨g, 0, none⟩) L.length cap) L) (hbw : b ≤ w.heap.size) :
    Calls Tryz.prog 51 #[.pointer (some ⟨x, 0, none⟩), rVal s r] w fun e w' => e = .returned (.int .i64 0) ∧ RfTo b w x (.slice (some ⟨g, 0, none⟩) L.length cap) w' (putR L s r) := by
  have hB0 := (Below.refl w.heap.size w).alloc (Nat.le_refl _) (.cells #[.string s, .int .i64 r.v, .int .i64 r.s, .string r.f] 75)
  have h1 := h.below hB0
  have hxl := h.blk.lt
  have HA := Lib.hid (cAt s b x _ L (by omega) _ h1)
  have HB0 := Lib.hid hB0
  have H := Lib.hid h
  have HH := Lib.hid h1
  clear h hB0
  have hle := idx_le s L
  obtain ⟨A', cap', e', hcap, _⟩ := h1.form
  injection e' with e1 _ e3
  subst e1 e3
  rw [hh] at HA
  rw [put_no hh]
  clear h1 hh
  obtain ⟨i0, hi0, hz0, hz1, hz2⟩ := info_parts reg_info
  unfold rVal
  by_cases hci : cap = idx L s
  case' pos => subst hci
  all_goals
    go_enter Tryz.func51, Tryz.ntmps51
    go_wp2_with (first
      | (go_at_call 54; refine HA.out.mono ?_; rintro e w1 ⟨rfl, hb1⟩; have hr1 := HH.out.below hb1; have c0 := hr1.c0; have hr1b := hr1.below ((Below.refl w1.heap.size w1).alloc (Nat.le_refl _) (.cells #[] 75)); have c01 := hr1b.c0; have ho1 := Lib.hid (World.ownsRow_lit (e := 75) (size := 4) w1 #[] 0 (Nat.le_refl _) (by unfold maxLen; omega) rfl); have HR1 := Lib.hid hr1b; have HRw := Lib.hid hr1; clear hr1 hr1b)
      | (at_builtin
         refine wpList_append_own_at _ rfl (.tmp 29) (.tmp 35) _ rfl w1.heap.size 75 i0 _ 4 48 Tryz.underlying27 hi0 hz0 hz1 hz2 rfl (by omega) (.slice (some ⟨w1.heap.size, 0, none⟩) 0 0) 0 [] rfl ho1.out ⟨g, 0, none⟩ (idx L s) _ (rcs (L.take (idx L s))) rfl
           (by rw [rcs_len, List.length_take]; congr 1; omega) (HR1.out.takeCells hle) (one_rcs _) (by simp only [maxLen]; omega) (by omega) (by simp) ?_
         intro v1 w2 hown1 hg1 _ hat1
         have hB2 : Below w1.heap.size w1 w2 := ((Below.refl w1.heap.size w1).alloc (Nat.le_refl _) _).grown hg1 (by simp) (by intro k hk; simp only [Value.ownBlock, Option.some.injEq] at hk; omega)
         have hz2' := ((Blk.new w 75 #[.string s, .int .i64 r.v, .int .i64 r.s, .string r.f]).below hb1 (by simp)).below hB2 (by have := hb1.size; simp at this; omega)
         have d0 := hz2'.cell 0
         have d1 := hz2'.cell 1
         have d2 := hz2'.cell 2
         have d3 := hz2'.cell 3
         clear hz2'
         simp only [List.getElem?_toArray, List.getElem?_cons_zero, List.getElem?_cons_succ] at d0 d1 d2 d3
         have ho2 := Lib.hid (hown1.alloc (.cells #[.string s, .int .i64 r.v, .int .i64 r.s, .string r.f] 75))
         have hn2 := Lib.hid (Blk.new w2 75 #[.string s, .int .i64 r.v, .int .i64 r.s, .string r.f])
         clear hown1 ho1)
      | (at_builtin
         refine wpList_append_own_at _ rfl (.tmp 37) (.tmp 39) _ rfl w1.heap.size 75 i0 _ 4 48 Tryz.underlying27 hi0 hz0 hz1 hz2 rfl (by omega) v1 (0 + idx L s) _ rfl ho2.out ⟨w2.heap.size, 0, none⟩ 1 1 (rcs [(s, r)]) rfl
           rfl (cells_new hn2.out) (one_rcs _) (by simp only [maxLen]; omega) (by omega) (by have := hB2.size; simp; omega) ?_
         intro v2 w3 hown2 hg2 _ hat2
         have hB3 : Below w1.heap.size w1 w3 := (hB2.alloc hB2.size _).grown hg2 (by have := hB2.size; simp; omega) (by intro k hk; rcases hat1 with e | e <;> rw [e] at hk <;> simp [Value.ownBlock] at hk <;> omega)
         have HR3 := Lib.hid (HRw.out.below hB3)
         have c03 := HR3.out.c0
         have HO2 := Lib.hid hown2
         clear hown2 d0 d1 d2 d3)
      | (at_builtin
         refine wpList_append_own_at _ rfl (.tmp 42) (.tmp 48) _ rfl w1.heap.size 75 i0 _ 4 48 Tryz.underlying27 hi0 hz0 hz1 hz2 rfl (by omega) v2 (0 + idx L s + 1) _ rfl HO2.out _ _ _ (rcs (L.drop (idx L s))) rfl
           (by simp only [rcs_len, List.length_drop]; try omega) (by first | exact HR3.out.dropCells | exact drop_none (by omega)) (one_rcs _) (by simp only [maxLen]; omega) (by omega) hB3.size ?_
         intro v3 w4 hown3 hg3 _ hat3
         have hB4 : Below w1.heap.size w1 w4 := hB3.grown hg3 hB3.size (by intro k hk; rcases hat2 with e | e <;> rw [e] at hk; rcases hat1 with e | e <;> rw [e] at hk <;> simp [Value.ownBlock] at hk <;> omega; have := hB2.size; simp at hk; omega)
         have HR4 := Lib.hid (HRw.out.below hB4)
         have c04 := HR4.out.c0
         have f04 := HR4.out.blk.frozen 0
         have hv3 := Lib.hid (row3 hat1 hat2 hat3 hB2.size hB3.size)
         obtain ⟨A3, c3, rfl⟩ := own_form hown3
         have HO3 := Lib.hid hown3
         clear hown3))
    go_ret
    have hb2 : Below w.heap.size w w1 := HB0.out.trans (hb1.mono (by simp))
    refine ⟨rfl, RfTo.laid H.out hbw (hb2.trans (hB4.mono hb2.size)) hb2.size HO3.out hv3.out ?_ ?_ ?_⟩
    · simp only [List.nil_append, List.append_assoc]
      rw [← rcs_app, ← rcs_app]
      rfl
    · simp only [List.length_append, List.length_take, List.length_cons, List.length_drop]
      omega
    · simp only [List.length_append, List.length_take, List.length_cons, List.length_drop]
      omega
end Go.Proofs.YtaamjccffkdlhaaGreatDoor
