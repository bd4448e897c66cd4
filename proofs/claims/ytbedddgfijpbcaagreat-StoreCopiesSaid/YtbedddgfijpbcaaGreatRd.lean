/- Walk: lead, of the document's store. -/
import Derived.Test.YtbedddgfijpbcaaGreatRc
import Derived.Laws.AppendOwnNone
namespace Go.Proofs.YtbedddgfijpbcaaGreat
open Go.RowKit Go.Maps Go.WideMaps

section
variable {U K : Nat → Prop} {w w' : World} {x : Nat} {M : List Ent} {es : List En}
theorem RTo.trans {U' K' : Nat → Prop} {w1 : World} {M' : List Ent} {es' : List En} (hT : Turn U w w1) (hU : ∀ i, U' i → U i ∨ w.heap.size ≤ i) (hK : ∀ i, K' i → K i ∨ w.heap.size ≤ i) (h : RTo U' K' w1 w' x M' es') : RTo U K w w' x M' es' := by
  obtain ⟨U2, K2, h1, h2, h3, h4⟩ := h
  refine ⟨U2, K2, h1, hT.trans h2 (fun i hi hu => ?_), fun i hi => ?_, fun i hi => ?_⟩
  · rcases hU i hu with h | h
    · exact h
    · omega
  · rcases h3 i hi with h | h
    · exact hU i h
    · exact .inr (Nat.le_trans hT.size h)
  · rcases h4 i hi with h | h
    · exact hK i h
    · exact .inr (Nat.le_trans hT.size h)
theorem put_no {L : List Ent} {s : ByteArray} {r : Nat} (h : hasB L s = false) : putR L s r = L.take (idx L s) ++ (s, r) :: L.drop (idx L s) := by
  unfold putR
  rw [h]
  rfl
theorem put_del {s : ByteArray} {r : Nat} : ∀ {M : List Ent}, Srt M → putR (delR M s) s r = putR M s r
  | [], _ => by simp [delR, hasB, idx]
  | p :: t, h => by
    cases hn : nlt p.1 s
    · rw [del_ge hn, put_ge hn]
      by_cases hp : p.1 = s
      · rw [if_pos hp, if_pos hp]
        have hh : hasB t s = false := has_not (fun j q hj => by
          have := ne_of_nlt (h.head_ q (List.mem_of_getElem? hj))
          rw [hp] at this
          exact fun e => this e.symm)
        have hi : idx t s = 0 := by
          cases t with
          | nil => rfl
          | cons q t =>
            have := h.head_ q (List.mem_cons_self ..)
            rw [hp] at this
            unfold idx
            have h2 : nlt q.1 s = false := bl_asy this
            rw [h2]; rfl
        rw [put_no hh, hi]
        rfl
      · rw [if_neg hp, if_neg hp, put_ge hn, if_neg hp]
    · rw [del_lt hn, put_lt hn, put_lt hn, put_del h.tail_]
theorem has_del_at (h : Srt M) (s : ByteArray) : hasB (delR M s) s = false := by
  rw [has_del h]
  simp
theorem idx_before {s : ByteArray} : ∀ {L : List Ent} {k : Nat}, k < idx L s → ∃ p, L[k]? = some p ∧ nlt p.1 s = true
  | [], k, h => by simp [idx] at h
  | p :: t, k, h => by
    unfold idx at h
    split at h
    · rename_i hp
      cases k with
      | zero => exact ⟨p, rfl, hp⟩
      | succ k => exact idx_before (L := t) (k := k) (by omega)
    · omega
theorem idx_at {s : ByteArray} : ∀ {L : List Ent} {p : Ent}, L[idx L s]? = some p → nlt p.1 s = false
  | [], p, h => by simp at h
  | q :: t, p, h => by
    unfold idx at h
    split at h
    · exact idx_at (L := t) (by simpa using h)
    · rename_i hq
      have : q = p := by simpa using h
      subst this
      simpa using hq
theorem RS.takeN {zs : List (En × Value)} {ev : Value} {g cap k : Nat} (h : RS U K w x M zs (.slice (some ⟨g, 0, none⟩) M.length cap) ev) (hk : k ≤ M.length) : ∀ j u, (c2 nmF (M.take k))[j]? = some u → w.cell? ((⟨g, 0, none⟩ : Addr).add j) = some u := by
  intro j u hu
  have hj := (List.getElem?_eq_some_iff.1 hu).1
  rw [c2_len, List.length_take] at hj
  rw [off_add, Nat.zero_add, h.nms.cellAt j (by omega)]
  rw [← c2_take, List.getElem?_take_of_lt (by omega)] at hu
  exact hu
theorem RS.dropN {zs : List (En × Value)} {ev : Value} {g cap k : Nat} (h : RS U K w x M zs (.slice (some ⟨g, 0, none⟩) M.length cap) ev) : ∀ j u, (c2 nmF (M.drop k))[j]? = some u → w.cell? ((⟨g, k * 2, none⟩ : Addr).add j) = some u := by
  intro j u hu
  have hj := (List.getElem?_eq_some_iff.1 hu).1
  rw [c2_len, List.length_drop] at hj
  rw [off_add, h.nms.cellAt _ (by omega)]
  rw [← c2_drop, List.getElem?_drop] at hu
  exact hu
theorem drop_none {ad : Addr} {k : Nat} (h : M.length ≤ k) : ∀ j u, (c2 nmF (M.drop k))[j]? = some u → w.cell? (ad.add j) = some u := by
  intro j u hu
  rw [List.drop_of_length_le h] at hu
  simp [c2] at hu
theorem row1 {w1 : World} {v1 : Value} (h1 : v1.ownBlock = (Value.slice (some ⟨w1.heap.size, 0, none⟩) 0 0).ownBlock ∨ v1.ownBlock = some (w1.alloc (.cells #[] 81)).heap.size) : ∀ g, v1.ownBlock = some g → w1.heap.size ≤ g := by
  intro g hg
  rcases h1 with h1 | h1
  · rw [h1] at hg; simp [Value.ownBlock] at hg; omega
  · rw [h1] at hg; simp at hg; omega
theorem row3 {w1 w2 : World} {v1 v2 : Value} {o : Obj} (h1 : v1.ownBlock = (Value.slice (some ⟨w1.heap.size, 0, none⟩) 0 0).ownBlock ∨ v1.ownBlock = some (w1.alloc (.cells #[] 81)).heap.size)
    (h2 : v2.ownBlock = v1.ownBlock ∨ v2.ownBlock = some (w2.alloc o).heap.size) (hs2 : w1.heap.size ≤ w2.heap.size) :
    ∀ g, v2.ownBlock = some g → w1.heap.size ≤ g := by
  intro g hg
  rcases h2 with h2 | h2
  · rw [h2] at hg
    rcases h1 with h1 | h1
    · rw [h1] at hg; simp [Value.ownBlock] at hg; omega
    · rw [h1] at hg; simp at hg; omega
  · rw [h2] at hg; simp at hg; omega
set_option maxRecDepth 100000 in
set_option maxHeartbeats 2000000 in
/-- lead. -/
theorem nLead (s : ByteArray) (e : Nat) (hn : nameB s = true) (he : e < es.length) (hr : hasB M s = true ∨ M.length < 500) (h : RSt U K w x M es) :
    Calls Tryz.prog 57 #[.pointer (some ⟨x, 0, none⟩), .string s, .int .i64 (e : Nat)] w fun r w' => r = .returned (.tuple #[]) ∧ RTo U K w w' x (putR M s e) es := by
  obtain ⟨i0, hi0, hz0, hz1, hz2⟩ := info_parts name_info
  have HL := Lib.hid (nLose s h)
  have hM : Srt M ∧ M.length ≤ 500 := by
    obtain ⟨zs, nv, ev, h, _⟩ := h
    exact ⟨h.srt, h.len⟩
  have hno := has_del_at hM.1 s
  have hput : putR M s e = (delR M s).take (idx (delR M s) s) ++ (s, e) :: (delR M s).drop (idx (delR M s) s) := by rw [← put_no hno, put_del hM.1]
  have hlen : (delR M s).length < 500 := by
    rcases hr with hr | hr
    · have := len_put (L := delR M s) (n := s) (r := e)
      rw [put_del hM.1, len_put, hr, hno] at this
      simp only [if_true, Bool.false_eq_true, if_false] at this
      omega
    · have := len_del (L := M) (n := s)
      omega
  rw [hput]
  clear hput h
  generalize hLd : delR M s = L at *
  generalize hZ : (L.take (idx L s) ++ (s, e) :: L.drop (idx L s)) = Z
  have HZ := Lib.hid hZ
  clear hZ
  go_enter Tryz.func57, Tryz.ntmps57
  go_wp2_with (go_at_call 55; refine HL.out.mono ?_; rintro r w1 ⟨rfl, hr1⟩)
  obtain ⟨U1, K1, ⟨zs, nv, ev, h1, rfl⟩, hT1, hU1, hK1⟩ := hr1
  rw [List.length_map] at he
  obtain ⟨A, cap, rfl, hcap, hA⟩ := own_form2 h1.nms
  have c1 := h1.q1
  have hle := idx_le s L
  have HTr := Lib.hid (fun w2 (h : RTo U1 K1 w1 w2 x Z (zs.map (·.1))) => RTo.trans hT1 hU1 hK1 h)
  have H := Lib.hid h1
  have HA := Lib.hid hA
  clear h1 hA hT1 hU1 hK1
  go_loop [6] (fun v6 => ∃ k : Nat, k ≤ idx L s ∧ v6 = .int .i64 k) (fun v6 => idx L s - (intOf v6).toNat)
  case atStart => exact ⟨0, Nat.zero_le _, rfl⟩
  case round =>
    obtain ⟨k, hk, rfl⟩ := hrel
    by_cases hlt : k < idx L s
    · obtain ⟨p, hp, hnl⟩ := idx_before hlt
      have hkl : k < L.length := by omega
      obtain ⟨g, rfl⟩ := HA.out (by omega)
      have hc := (H.out.nm hp).1
      have hb : Op.bytesLess p.1.toList s.toList = true := by rw [ByteArray.toList_eq, ByteArray.toList_eq]; exact hnl
      have HP := Lib.hid hp
      have HN := Lib.hid hnl
      clear hp hnl
      go_wp2_with fail
      go_round
      case rel => exact ⟨k + 1, by omega, by go_num⟩
      case measure => simp [intOf]; omega
    · have ek : k = idx L s := by omega
      subst ek
      have hB1 : Below w1.heap.size w1 (w1.alloc (.cells #[] 81)) := (Below.refl w1.heap.size w1).alloc (Nat.le_refl _) _
      have c01 := (H.out.below hB1).q1
      have hdone : ∀ w4 B n v xs, Below w1.heap.size w1 w4 → w1.heap.size ≤ B → w4.ownsRow B 81 2 v n xs → xs = c2 nmF (L.take (idx L s) ++ (s, e) :: L.drop (idx L s)) → RTo U K w (w4.setCell ⟨x, 1, none⟩ v) x Z (zs.map (·.1)) := fun w4 B n v xs hb hB ho hxs => HTr.out _ (by
        rw [← HZ.out]
        have hn2 : n * 2 = (L.take (idx L s) ++ (s, e) :: L.drop (idx L s)).length * 2 := by rw [← c2_len (f := nmF), ← hxs, ho.1]
        refine H.out.lay hb hB ho hxs (by omega) ?_ ?_ ?_
        · rw [← put_no hno]; exact H.out.srt.put
        · rw [← put_no hno, len_put]
          split <;> omega
        · intro p hp
          rw [← put_no hno] at hp
          rcases mem_put hp with rfl | hp
          · exact ⟨hn, he⟩
          · exact ⟨H.out.good p hp, H.out.ats p hp⟩)
      have HD := Lib.hid hdone
      clear hdone HTr HZ
      have ho1 := Lib.hid (World.ownsRow_lit (e := 81) (size := 2) w1 #[] 0 (Nat.le_refl _) (by unfold maxLen; omega) rfl)
      rcases H.out.nms.2 with ⟨hA0, hL0⟩ | ⟨g, cap', cur, hA0, _⟩
      · injection hA0 with hA1 _ hA3
        subst hA1 hA3
        have hL : L = [] := List.length_eq_zero_iff.1 hL0
        subst hL
        have e0 : idx ([] : List Ent) s = 0 := rfl
        have HN1 := Lib.hid (H.out.below hB1)
        have HN : Hid (∀ w2, Below w1.heap.size w1 w2 → w2.cell? ⟨x, 1, none⟩ = some (.slice none 0 0) ∧ w2.frozen? ⟨x, 1, none⟩ = false) := Lib.hid (fun w2 hb => ⟨(H.out.below hb).q1, (H.out.below hb).blk.frozen 1⟩)
        have c1' := (HN.out _ (Below.refl _ _)).1
        have c01' := (HN.out _ hB1).1
        clear c1 c01 hle hlt hk
        rw [e0]
        clear e0
        go_wp2_with (first
          | (at_builtin
             refine wpList_append_own_none rfl (.tmp 32) (.tmp 38) _ rfl w1.heap.size 81 i0 2 Tryz.underlying47 hi0 _ 0 [] rfl ho1.out rfl ?_
             have ho2 := Lib.hid (ho1.out.alloc (.cells #[.string s, .int .i64 (e : Nat)] 81))
             have hn2 : Hid (Blk ((w1.alloc (.cells #[] 81)).alloc (.cells #[.string s, .int .i64 (e : Nat)] 81)) (w1.heap.size + 1) 81 #[.string s, .int .i64 (e : Nat)]) := Lib.hid (by have := Blk.new (w1.alloc (.cells #[] 81)) 81 #[.string s, .int .i64 (e : Nat)]; simpa using this)
             clear ho1)
          | (at_builtin
             refine wpList_append_own_at _ rfl (.tmp 40) (.tmp 44) _ rfl w1.heap.size 81 i0 _ 2 24 Tryz.underlying47 hi0 hz0 hz1 hz2 rfl (by omega) (.slice (some ⟨w1.heap.size, 0, none⟩) 0 0) 0 _ rfl ho2.out ⟨w1.heap.size + 1, 0, none⟩ 1 1 (c2 nmF [(s, e)]) rfl rfl (cells_new hn2.out) (one_c2 nm_one _) (by simp only [maxLen]; omega) (by omega) (by first | (simp; done) | (simp; omega)) ?_
             intro v2 w3 hown2 hg2 _ hat2
             have hB3 : Below w1.heap.size w1 w3 := (hB1.alloc hB1.size _).grown hg2 (by first | (simp; done) | (simp; omega)) (fun k hk => by injection hk with hk; exact Nat.le_of_eq hk)
             have c03 := (HN.out _ hB3).1
             have f03 := (HN.out _ hB3).2
             rw [Nat.zero_add] at hown2
             obtain ⟨A2, c2', rfl, _, _⟩ := own_form2 hown2
             have HO2 := Lib.hid hown2
             clear hown2)
          | (at_builtin
             refine wpList_append_own_none rfl (.tmp 47) (.tmp 53) _ rfl w1.heap.size 81 i0 2 Tryz.underlying47 hi0 _ _ _ rfl HO2.out rfl ?_))
        go_end0
        exact ⟨rfl, HD.out _ _ _ _ _ hB3 (Nat.le_refl _) HO2.out rfl⟩
      · injection hA0 with hA1 _ hA3
        subst hA1 hA3
        have hcs : (idx L s = L.length ∨ ∃ p, L[idx L s]? = some p ∧ idx L s < L.length) := by
          cases hx : L[idx L s]? with
          | none =>
            rw [List.getElem?_eq_none_iff] at hx
            exact .inl (by omega)
          | some p => exact .inr ⟨p, rfl, (List.getElem?_eq_some_iff.1 hx).1⟩
        have HR1 := Lib.hid (H.out.below hB1)
        have hfz : Hid (∀ w2, Below w1.heap.size w1 w2 → w2.cell? ⟨x, 1, none⟩ = some (.slice (some ⟨g, 0, none⟩) L.length cap) ∧ w2.frozen? ⟨x, 1, none⟩ = false) := Lib.hid (fun w2 hb => ⟨(H.out.below hb).q1, (H.out.below hb).blk.frozen 1⟩)
        have hpx : ∀ p, L[idx L s]? = some p → nlt p.1 s = false := fun p hp => idx_at hp
        have HPX := Lib.hid hpx
        clear hpx
        generalize hix : idx L s = ix at *
        clear hix
        rcases hcs with rfl | ⟨p, hp, hpl⟩
        · have hci2 : cap = L.length ∨ L.length ≠ cap := by omega
          rcases hci2 with rfl | hci
          · go_wp2_with (first
              | (at_builtin
                 refine wpList_append_own_at _ rfl (.tmp 32) (.tmp 38) _ rfl w1.heap.size 81 i0 _ 2 24 Tryz.underlying47 hi0 hz0 hz1 hz2 rfl (by omega) (.slice (some ⟨w1.heap.size, 0, none⟩) 0 0) 0 [] rfl ho1.out ⟨g, 0, none⟩ L.length _ (c2 nmF (L.take L.length)) rfl
                   (by rw [c2_len, List.length_take]; congr 1; omega) (HR1.out.takeN hle) (one_c2 nm_one _) (by simp only [maxLen]; omega) (by omega) (by simp) ?_
                 intro v1 w2 hown1 hg1 _ hat1
                 have hB2 : Below w1.heap.size w1 w2 := ((Below.refl w1.heap.size w1).alloc (Nat.le_refl _) _).grown hg1 (by simp) (by intro k hk; simp only [Value.ownBlock, Option.some.injEq] at hk; omega)
                 rw [Nat.zero_add] at hown1
                 obtain ⟨A1, c1', rfl, _, _⟩ := own_form2 hown1
                 have ho2 := Lib.hid (hown1.alloc (.cells #[.string s, .int .i64 (e : Nat)] 81))
                 have hn2 := Lib.hid (Blk.new w2 81 #[.string s, .int .i64 (e : Nat)])
                 clear hown1 ho1)
              | (at_builtin
                 (refine wpList_append_own_at _ rfl (.tmp 40) (.tmp 44) _ rfl w1.heap.size 81 i0 _ 2 24 Tryz.underlying47 hi0 hz0 hz1 hz2 rfl (by omega) (.slice A1 L.length c1') L.length _ rfl ho2.out ⟨w2.heap.size, 0, none⟩ 1 1 (c2 nmF [(s, e)]) rfl rfl (cells_new hn2.out) (one_c2 nm_one _) (by simp only [maxLen]; omega) (by omega) (by have := hB2.size; simp; omega) ?_)
                 intro v2 w3 hown2 hg2 _ hat2
                 have hB3 : Below w1.heap.size w1 w3 := (hB2.alloc hB2.size _).grown hg2 (by have := hB2.size; simp; omega) (row1 hat1)
                 have HR3 := Lib.hid (H.out.below hB3)
                 have c03 := HR3.out.q1
                 obtain ⟨A2, c2', rfl, _, _⟩ := own_form2 hown2
                 have HO2 := Lib.hid hown2
                 clear hown2)
              | (at_builtin
                 have HO2x := HO2
                 change id (wpList _ _ _ _ _ _)))
            unfold id
            (refine wpList_append_own_at _ rfl (.tmp 47) (.tmp 53) _ rfl w1.heap.size 81 i0 _ 2 24 Tryz.underlying47 hi0 hz0 hz1 hz2 rfl (by omega) (.slice A2 (L.length + 1) c2') (L.length + 1) _ rfl HO2.out _ _ _ (c2 nmF (L.drop L.length)) rfl (by simp only [c2_len, List.length_drop]; try omega) (by first | exact HR3.out.dropN | exact drop_none (by omega)) (one_c2 nm_one _) (by simp only [maxLen]; omega) (by omega) hB3.size ?_)
            intro v3 w4 hown3 hg3 _ hat3
            have hB4 : Below w1.heap.size w1 w4 := hB3.grown hg3 hB3.size (row3 hat1 hat2 hB2.size)
            have f04 := (hfz.out _ hB4).2
            have c04 := (hfz.out _ hB4).1
            try rw [Nat.add_zero] at hown3
            obtain ⟨A3, c3, rfl, _, _⟩ := own_form2 hown3
            have HO3 := Lib.hid hown3
            clear hown3
            go_wp2_with fail
            go_end0
            refine ⟨rfl, HD.out _ _ _ _ _ hB4 (Nat.le_refl _) HO3.out ?_⟩
            simp only [List.nil_append, List.append_assoc]
            rw [← c2_app, ← c2_app]
            rfl
          · have hci' : cap ≠ L.length := fun e => hci e.symm
            go_wp2_with (first
              | (at_builtin
                 refine wpList_append_own_at _ rfl (.tmp 32) (.tmp 38) _ rfl w1.heap.size 81 i0 _ 2 24 Tryz.underlying47 hi0 hz0 hz1 hz2 rfl (by omega) (.slice (some ⟨w1.heap.size, 0, none⟩) 0 0) 0 [] rfl ho1.out ⟨g, 0, none⟩ L.length _ (c2 nmF (L.take L.length)) rfl
                   (by rw [c2_len, List.length_take]; congr 1; omega) (HR1.out.takeN hle) (one_c2 nm_one _) (by simp only [maxLen]; omega) (by omega) (by simp) ?_
                 intro v1 w2 hown1 hg1 _ hat1
                 have hB2 : Below w1.heap.size w1 w2 := ((Below.refl w1.heap.size w1).alloc (Nat.le_refl _) _).grown hg1 (by simp) (by intro k hk; simp only [Value.ownBlock, Option.some.injEq] at hk; omega)
                 rw [Nat.zero_add] at hown1
                 obtain ⟨A1, c1', rfl, _, _⟩ := own_form2 hown1
                 have ho2 := Lib.hid (hown1.alloc (.cells #[.string s, .int .i64 (e : Nat)] 81))
                 have hn2 := Lib.hid (Blk.new w2 81 #[.string s, .int .i64 (e : Nat)])
                 clear hown1 ho1)
              | (at_builtin
                 (refine wpList_append_own_at _ rfl (.tmp 40) (.tmp 44) _ rfl w1.heap.size 81 i0 _ 2 24 Tryz.underlying47 hi0 hz0 hz1 hz2 rfl (by omega) (.slice A1 L.length c1') L.length _ rfl ho2.out ⟨w2.heap.size, 0, none⟩ 1 1 (c2 nmF [(s, e)]) rfl rfl (cells_new hn2.out) (one_c2 nm_one _) (by simp only [maxLen]; omega) (by omega) (by have := hB2.size; simp; omega) ?_)
                 intro v2 w3 hown2 hg2 _ hat2
                 have hB3 : Below w1.heap.size w1 w3 := (hB2.alloc hB2.size _).grown hg2 (by have := hB2.size; simp; omega) (row1 hat1)
                 have HR3 := Lib.hid (H.out.below hB3)
                 have c03 := HR3.out.q1
                 obtain ⟨A2, c2', rfl, _, _⟩ := own_form2 hown2
                 have HO2 := Lib.hid hown2
                 clear hown2)
              | (at_builtin
                 have HO2x := HO2
                 change id (wpList _ _ _ _ _ _)))
            unfold id
            (refine wpList_append_own_at _ rfl (.tmp 47) (.tmp 53) _ rfl w1.heap.size 81 i0 _ 2 24 Tryz.underlying47 hi0 hz0 hz1 hz2 rfl (by omega) (.slice A2 (L.length + 1) c2') (L.length + 1) _ rfl HO2.out _ _ _ (c2 nmF (L.drop L.length)) rfl (by simp only [c2_len, List.length_drop]; try omega) (by first | exact HR3.out.dropN | exact drop_none (by omega)) (one_c2 nm_one _) (by simp only [maxLen]; omega) (by omega) hB3.size ?_)
            intro v3 w4 hown3 hg3 _ hat3
            have hB4 : Below w1.heap.size w1 w4 := hB3.grown hg3 hB3.size (row3 hat1 hat2 hB2.size)
            have f04 := (hfz.out _ hB4).2
            have c04 := (hfz.out _ hB4).1
            try rw [Nat.add_zero] at hown3
            obtain ⟨A3, c3, rfl, _, _⟩ := own_form2 hown3
            have HO3 := Lib.hid hown3
            clear hown3
            go_wp2_with fail
            go_end0
            refine ⟨rfl, HD.out _ _ _ _ _ hB4 (Nat.le_refl _) HO3.out ?_⟩
            simp only [List.nil_append, List.append_assoc]
            rw [← c2_app, ← c2_app]
            rfl
        · have hc := (H.out.nm hp).1
          have hb : Op.bytesLess p.1.toList s.toList = false := by rw [ByteArray.toList_eq, ByteArray.toList_eq]; exact HPX.out p hp
          have hci : cap ≠ ix := by omega
          clear hp
          go_wp2_with (first
            | (at_builtin
               refine wpList_append_own_at _ rfl (.tmp 32) (.tmp 38) _ rfl w1.heap.size 81 i0 _ 2 24 Tryz.underlying47 hi0 hz0 hz1 hz2 rfl (by omega) (.slice (some ⟨w1.heap.size, 0, none⟩) 0 0) 0 [] rfl ho1.out ⟨g, 0, none⟩ ix _ (c2 nmF (L.take ix)) rfl
                 (by rw [c2_len, List.length_take]; congr 1; omega) (HR1.out.takeN hle) (one_c2 nm_one _) (by simp only [maxLen]; omega) (by omega) (by simp) ?_
               intro v1 w2 hown1 hg1 _ hat1
               have hB2 : Below w1.heap.size w1 w2 := ((Below.refl w1.heap.size w1).alloc (Nat.le_refl _) _).grown hg1 (by simp) (by intro k hk; simp only [Value.ownBlock, Option.some.injEq] at hk; omega)
               rw [Nat.zero_add] at hown1
               obtain ⟨A1, c1', rfl, _, _⟩ := own_form2 hown1
               have ho2 := Lib.hid (hown1.alloc (.cells #[.string s, .int .i64 (e : Nat)] 81))
               have hn2 := Lib.hid (Blk.new w2 81 #[.string s, .int .i64 (e : Nat)])
               clear hown1 ho1)
            | (at_builtin
               (refine wpList_append_own_at _ rfl (.tmp 40) (.tmp 44) _ rfl w1.heap.size 81 i0 _ 2 24 Tryz.underlying47 hi0 hz0 hz1 hz2 rfl (by omega) (.slice A1 ix c1') ix _ rfl ho2.out ⟨w2.heap.size, 0, none⟩ 1 1 (c2 nmF [(s, e)]) rfl rfl (cells_new hn2.out) (one_c2 nm_one _) (by simp only [maxLen]; omega) (by omega) (by have := hB2.size; simp; omega) ?_)
               intro v2 w3 hown2 hg2 _ hat2
               have hB3 : Below w1.heap.size w1 w3 := (hB2.alloc hB2.size _).grown hg2 (by have := hB2.size; simp; omega) (row1 hat1)
               have HR3 := Lib.hid (H.out.below hB3)
               have c03 := HR3.out.q1
               obtain ⟨A2, c2', rfl, _, _⟩ := own_form2 hown2
               have HO2 := Lib.hid hown2
               clear hown2)
            | (at_builtin
               have HO2x := HO2
               change id (wpList _ _ _ _ _ _)))
          unfold id
          (refine wpList_append_own_at _ rfl (.tmp 47) (.tmp 53) _ rfl w1.heap.size 81 i0 _ 2 24 Tryz.underlying47 hi0 hz0 hz1 hz2 rfl (by omega) (.slice A2 (ix + 1) c2') (ix + 1) _ rfl HO2.out _ _ _ (c2 nmF (L.drop ix)) rfl (by simp only [c2_len, List.length_drop]; try omega) (by first | exact HR3.out.dropN | exact drop_none (by omega)) (one_c2 nm_one _) (by simp only [maxLen]; omega) (by omega) hB3.size ?_)
          intro v3 w4 hown3 hg3 _ hat3
          have hB4 : Below w1.heap.size w1 w4 := hB3.grown hg3 hB3.size (row3 hat1 hat2 hB2.size)
          have f04 := (hfz.out _ hB4).2
          have c04 := (hfz.out _ hB4).1
          try rw [Nat.add_zero] at hown3
          obtain ⟨A3, c3, rfl, _, _⟩ := own_form2 hown3
          have HO3 := Lib.hid hown3
          clear hown3
          go_wp2_with fail
          go_end0
          refine ⟨rfl, HD.out _ _ _ _ _ hB4 (Nat.le_refl _) HO3.out ?_⟩
          simp only [List.nil_append, List.append_assoc]
          rw [← c2_app, ← c2_app]
          rfl
end
end Go.Proofs.YtbedddgfijpbcaaGreat
