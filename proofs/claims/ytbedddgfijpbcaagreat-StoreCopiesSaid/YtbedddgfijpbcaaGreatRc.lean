/- Walk: lose, of the document's store. -/
import Derived.Test.YtbedddgfijpbcaaGreatRa
namespace Go.Proofs.YtbedddgfijpbcaaGreat
open Go.RowKit Go.Maps Go.WideMaps

theorem name_info : (Tryz.prog.info? 81).map (fun i => (i.zero, i.size, i.bytes)) = some (some (.agg #[.string ⟨#[]⟩, .int .i64 0]), 2, 24) := by kernel_rfl
theorem entry_info : (Tryz.prog.info? 62).map (fun i => (i.zero, i.size, i.bytes)) = some (some (.agg #[.int .i64 0, .slice none 0 0]), 2, 32) := by kernel_rfl
section
variable {U K : Nat → Prop} {w w' : World} {x : Nat} {M : List Ent} {es : List En}
/-- The names but for one. -/
def butN (M : List Ent) (s : ByteArray) : List Ent := M.filter fun p => decide (p.1 ≠ s)
/-- What a change of the document's store leaves. -/
def RTo (U K : Nat → Prop) (w w' : World) (x : Nat) (M : List Ent) (es : List En) : Prop :=
  ∃ U' K', RSt U' K' w' x M es ∧ Turn U w w' ∧ (∀ i, U' i → U i ∨ w.heap.size ≤ i) ∧ (∀ i, K' i → K i ∨ w.heap.size ≤ i)
theorem own_ge {b n size : Nat} {t : TypeId} {v : Value} {xs : List Value} {w : World} (h : w.ownsRow b t size v n xs) {g : Nat} (hg : v.ownBlock = some g) : b ≤ g := (h.lt g hg).1
theorem one_c2 {α : Type} {f : α → Value × Value} (hf : ∀ a, (f a).1.oneCell' = true ∧ (f a).2.oneCell' = true) (L : List α) : ∀ u ∈ c2 f L, u.oneCell' = true := by
  intro u hu
  obtain ⟨p, _, hp⟩ := List.mem_flatMap.1 hu
  simp only [List.mem_cons, List.not_mem_nil, or_false] at hp
  rcases hp with rfl | rfl
  · exact (hf p).1
  · exact (hf p).2
theorem off_add (g i j : Nat) : (⟨g, i, none⟩ : Addr).add j = ⟨g, i + j, none⟩ := by
  unfold Addr.add
  split
  · rename_i h
    subst h; rfl
  · rfl
theorem cells_new {w : World} {g : Nat} {t : TypeId} {cs : Array Value} (h : Blk w g t cs) : ∀ j u, cs.toList[j]? = some u → w.cell? ((⟨g, 0, none⟩ : Addr).add j) = some u := by
  intro j u hu
  rw [off_add, Nat.zero_add, h.cell j]
  simpa using hu
theorem own_base {w : World} {b b' n size : Nat} {t : TypeId} {v : Value} {xs : List Value} (h : w.ownsRow b t size v n xs) (hb : b' ≤ b) : w.ownsRow b' t size v n xs := by
  refine ⟨h.1, ?_⟩
  rcases h.2 with h | ⟨g, cap, cur, hv, hg, hr⟩
  · exact .inl h
  · exact .inr ⟨g, cap, cur, hv, by omega, hr⟩
/-- A new row of names is laid. -/
theorem RS.lay {zs : List (En × Value)} {nv ev v : Value} {w4 : World} {B n : Nat} {xs : List Value} {M' : List Ent} (h : RS U K w x M zs nv ev) (hb : Below w.heap.size w w4) (hB : w.heap.size ≤ B) (ho : w4.ownsRow B 81 2 v n xs) (hxs : xs = c2 nmF M') (hn : n = M'.length)
    (h1 : Srt M') (h2 : M'.length ≤ 500) (h3 : ∀ p ∈ M', nameB p.1 = true ∧ p.2 < zs.length) : RTo U K w (w4.setCell ⟨x, 1, none⟩ v) x M' (zs.map (·.1)) := by
  subst hn hxs
  have hx := h.blk.lt
  have hT := turn_set w4 x 1 v
  have h4 := h.below hb
  have hlt := ho.lt
  have hse := hT.size
  have hsz := hb.size
  have hlay : RS U (fun i => K i ∨ v.ownBlock = some i) (w4.setCell ⟨x, 1, none⟩ v) x M' zs v ev := by
    refine ⟨blk_set h4.blk v, own_base (own_turn ho hT (fun g hg e => ?_)) (Nat.zero_le _), own_turn h4.ens hT (fun g hg e => ?_), fun z hz => ⟨(h4.lns z hz).1.stay (Kept.of_turn hT (fun i hi e => ?_)) (fun i hi => .inl hi), (h4.lns z hz).2⟩, h1, h2, fun p hp => (h3 p hp).1, fun p hp => (h3 p hp).2, h.ux, h.ue, fun g hg => .inr hg, ?_, fun i hi => by have := h.ul i hi; omega, ?_⟩
    · have := (hlt g hg).1
      omega
    · rw [e] at hg
      rcases h4.ens.2 with ⟨h5, _⟩ | ⟨g', cap, cur, h5, _, h6, _⟩
      · rw [h5] at hg; cases hg
      · rw [h5] at hg
        injection hg with hg
        exact blk_ne (show Blk w4 g' _ cur from h6) h4.blk (by decide) hg
    · rw [e] at hi
      exact h.uk x h.ux hi
    · rintro i hi (h5 | h5)
      · exact h.uk i hi h5
      · have := (hlt i h5).1
        have := h.ul i hi
        omega
    · rintro i (h5 | h5)
      · have := h.kl i h5
        omega
      · have := (hlt i h5).2
        omega
  refine ⟨U, _, ⟨zs, v, ev, hlay, rfl⟩, (Turn.of_below hb : Turn U w w4).trans hT (fun i _ e => by rw [e]; exact h.ux), fun i hi => .inl hi, fun i hi => ?_⟩
  rcases hi with hi | hi
  · exact .inl hi
  · have := (hlt i hi).1
    exact .inr (by omega)
theorem nm_one : ∀ a : Ent, (nmF a).1.oneCell' = true ∧ (nmF a).2.oneCell' = true := fun _ => ⟨rfl, rfl⟩
theorem but_take {k : Nat} {p : Ent} (s : ByteArray) (hp : M[k]? = some p) : butN (M.take (k + 1)) s = butN (M.take k) s ++ if p.1 = s then [] else [p] := by
  obtain ⟨hk, e⟩ := List.getElem?_eq_some_iff.1 hp
  unfold butN
  rw [List.take_succ_eq_append_getElem hk, List.filter_append, e]
  by_cases h : p.1 = s <;> simp [h]
theorem but_del {s : ByteArray} : ∀ {M : List Ent}, Srt M → butN M s = delR M s
  | [], _ => by simp [butN, delR]
  | p :: t, h => by
    have ih := but_del (s := s) h.tail_
    have hne : ∀ q ∈ t, nlt s q.1 = true ∨ p.1 = s → (nlt p.1 q.1 = true) := fun q hq _ => h.head_ q hq
    have e : butN (p :: t) s = if p.1 = s then butN t s else p :: butN t s := by
      unfold butN
      by_cases h : p.1 = s <;> simp [h]
    rw [e]
    cases hn : nlt p.1 s
    · rw [del_ge hn]
      by_cases hp : p.1 = s
      · rw [if_pos hp, if_pos hp]
        unfold butN
        rw [List.filter_eq_self]
        intro q hq
        have := ne_of_nlt (h.head_ q hq)
        rw [hp] at this
        simpa using fun e => this e.symm
      · rw [if_neg hp, if_neg hp]
        congr 1
        unfold butN
        rw [List.filter_eq_self]
        intro q hq
        have h1 := nlt_tri hn hp
        have h2 := bl_trans h1 (h.head_ q hq)
        have := ne_of_nlt h2
        simpa using fun e => this e.symm
    · rw [del_lt hn, ih, if_neg (ne_of_nlt hn)]
set_option maxRecDepth 100000 in
set_option maxHeartbeats 1000000 in
/-- lose. -/
theorem nLose (s : ByteArray) (h : RSt U K w x M es) :
    Calls Tryz.prog 55 #[.pointer (some ⟨x, 0, none⟩), .string s] w fun e w' => e = .returned (.tuple #[]) ∧ RTo U K w w' x (delR M s) es := by
  obtain ⟨i0, hi0, hz0, hz1, hz2⟩ := info_parts name_info
  obtain ⟨zs, nv, ev, h, rfl⟩ := h
  obtain ⟨A, cap, rfl, hcap, hA⟩ := own_form2 h.nms
  have hlen := h.len
  have H := Lib.hid h
  have HA := Lib.hid hA
  clear h hA
  go_enter Tryz.func55, Tryz.ntmps55
  go_wp2
  go_loopw [4, 5] (fun v4 v5 wr => ∃ k : Nat, k ≤ M.length ∧ v5 = .int .i64 k ∧ (butN (M.take k) s).length ≤ k ∧ wr.ownsRow w.heap.size 81 2 v4 (butN (M.take k) s).length (c2 nmF (butN (M.take k) s)) ∧ Below w.heap.size w wr) (fun _ v5 _ => M.length - (intOf v5).toNat)
  case atStart => exact ⟨0, Nat.zero_le _, rfl, Nat.le_refl _, World.ownsRow_nil _ _ _ _, Below.refl _ _⟩
  case round =>
    obtain ⟨k, hk, rfl, hlk, hown, hb⟩ := hrel
    have HR := Lib.hid (H.out.below hb)
    have c1 := HR.out.q1
    by_cases hlt : k < M.length
    · obtain ⟨g, rfl⟩ := HA.out (by omega)
      have hp := List.getElem?_eq_getElem hlt
      generalize M[k] = p at hp
      obtain ⟨d0, d1⟩ := HR.out.nm hp
      have he := eq_toList p.1 s
      have ht := but_take s hp
      clear hp
      by_cases hs : p.1 = s
      · rw [decide_eq_true hs] at he
        rw [if_pos hs, List.append_nil] at ht
        have HT := Lib.hid ht
        have HO := Lib.hid hown
        clear hs ht hown
        go_wp2_with fail
        go_roundw
        case rel => exact ⟨k + 1, by omega, by go_num, by rw [HT.out]; omega, by rw [HT.out]; exact HO.out, hb⟩
        case measure => simp [intOf]; omega
      · rw [decide_eq_false hs] at he
        rw [if_neg hs] at ht
        obtain ⟨A4, c4, rfl, _, _⟩ := own_form2 hown
        have HO := Lib.hid (hown.alloc (.cells #[.string p.1, .int .i64 (p.2 : Nat)] 81))
        have HO0 := Lib.hid hown
        have hn2 := Lib.hid (Blk.new wr 81 #[.string p.1, .int .i64 (p.2 : Nat)])
        have HT := Lib.hid ht
        clear hs ht hown
        generalize (butN (M.take k) s) = T at *
        go_wp2_with (at_builtin
                     refine wpList_append_own_at _ rfl (.tmp 25) (.tmp 33) _ rfl w.heap.size 81 i0 _ 2 24 Tryz.underlying47 hi0 hz0 hz1 hz2 rfl (by omega) _ T.length _ rfl HO.out ⟨wr.heap.size, 0, none⟩ 1 1 (c2 nmF [p]) rfl
                       rfl (cells_new hn2.out) (one_c2 nm_one _) (by unfold maxLen; omega) (by omega) (by have := hb.size; simp; omega) ?_
                     intro v1 w2 hown1 hg1 _ hat1
                     have HO3 := Lib.hid hown1
                     have hb2 : Below w.heap.size w w2 := (hb.alloc hb.size _).grown hg1 (by have := hb.size; simp; omega) (fun q hq => own_ge HO0.out hq)
                     clear hown1)
        go_roundw
        case rel =>
          refine ⟨k + 1, by omega, by go_num, by rw [HT.out, List.length_append]; simp; omega, ?_, hb2⟩
          have := HO3.out
          rw [← c2_app] at this
          rw [HT.out, List.length_append]
          exact this
        case measure => simp [intOf]; omega
    · have e : k = M.length := by omega
      subst e
      rw [List.take_length] at hown hlk
      obtain ⟨A4, c4, rfl, _, _⟩ := own_form2 hown
      have HO := Lib.hid hown
      have f1 := HR.out.blk.frozen 1
      clear hown
      go_wp2
      go_end0
      refine ⟨rfl, H.out.lay hb (Nat.le_refl _) HO.out (by rw [but_del H.out.srt]) (by rw [but_del H.out.srt]) H.out.srt.del (Nat.le_trans len_del H.out.len) (fun p hp => ?_)⟩
      have := (del_sub s M).subset hp
      exact ⟨H.out.good p this, H.out.ats p this⟩
end
end Go.Proofs.YtbedddgfijpbcaaGreat
