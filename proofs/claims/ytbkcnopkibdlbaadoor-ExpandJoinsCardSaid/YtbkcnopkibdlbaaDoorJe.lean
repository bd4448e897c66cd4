/- Walk of package expand: lines are joined. -/
import Derived.Test.YtbkcnopkibdlbaaDoorJa
import Derived.Test.YtbkcnopkibdlbaaDoorJd
import Derived.OwnWalk
namespace Go.Proofs.YtbkcnopkibdlbaaDoor
open Go.RowKit Go.Shelf

theorem infoStr : (Tryd.prog.info? 9).map (fun i => (i.zero, i.size, i.bytes)) = some (some (.string ⟨#[]⟩), 1, 16) := by kernel_rfl
theorem str_one (s : ByteArray) : ∀ u ∈ [Value.string s], u.oneCell' = true := by intro u hu; rw [List.mem_singleton] at hu; subst hu; rfl
theorem new_one' (w : World) (t : TypeId) (u : Value) : ∀ (j : Nat) (v : Value), [u][j]? = some v → (w.alloc (.cells #[u] t)).cell? ((⟨w.heap.size, 0, none⟩ : Addr).add j) = some v := by
  intro j v hj
  match j, hj with
  | 0, hj => simp at hj; subst hj; exact Blk.cell (Blk.new w t #[u]) 0
  | j + 1, hj => simp at hj
theorem bcells_app (a b : ByteArray) : Lib.byteCells a.data.toList ++ Lib.strCells b = Lib.byteCells (a ++ b).data.toList := by
  rw [app_data]
  unfold Lib.byteCells Lib.strCells
  rw [List.map_append]
abbrev Bu (b : Nat) (a : ByteArray) (w : World) : Prop := Lib.IsBuilder 43 5 b b (Lib.byteCells a.data.toList) w
theorem bu_blk {b : Nat} {xs : List Value} {w : World} (h : Lib.IsBuilderF 43 5 b b xs w) : ∃ cs fz, w.heap[b]? = some (.cells cs 43 fz) := by
  rcases h with ⟨_, v, h, _⟩ | ⟨_, v, h, _⟩
  · exact ⟨_, _, h⟩
  · exact ⟨_, _, h⟩
/-- A row of texts stays where a builder is written. -/
theorem own_others {b n : Nat} {v : Value} {xs ys : List Value} {w w' : World} {B : Nat} (h : w.ownsRow B 9 1 v n ys) (hb : Lib.IsBuilderF 43 5 b b xs w) (hk : Lib.OthersKept 5 (some b) w w') : w'.ownsRow B 9 1 v n ys := by
  refine ⟨h.1, ?_⟩
  rcases h.2 with hn | ⟨g, cap, cur, rfl, hB, hg, rest⟩
  · exact .inl hn
  · refine .inr ⟨g, cap, cur, rfl, hB, hk g _ hg (fun e => ?_) (fun c fz e => ?_), rest⟩
    · injection e with e
      subst e
      obtain ⟨cs, fz, h2⟩ := bu_blk hb
      rw [h2] at hg
      injection hg with hg
      injection hg with _ hg _
      exact absurd hg (by decide)
    · injection e with _ e _
      exact absurd e (by decide)
theorem own_kind9 {n : Nat} {v : Value} {ys : List Value} {w : World} {B : Nat} (h : w.ownsRow B 9 1 v n ys) : ∀ g, v.ownBlock = some g → ∃ c fz, w.heap[g]? = some (.cells c 9 fz) := fun g hg => by
  rcases h.2 with ⟨rfl, _⟩ | ⟨g', cap, cur, rfl, _, hgg, _⟩
  · cases hg
  · injection hg with hg
    subst hg
    exact ⟨_, _, hgg⟩
/-- A builder stays where a row of texts grows. -/
theorem bu_grown {b : Nat} {xs : List Value} {w w' : World} {row : Option Nat} (h : Lib.IsBuilderF 43 5 b b xs w) (hg : w.grownBy w' row) (hr : ∀ g, row = some g → ∃ c fz, w.heap[g]? = some (.cells c 9 fz)) : Lib.IsBuilderF 43 5 b b xs w' := by
  have key : ∀ p, Lib.BuilderAtF 43 5 b b p xs w → Lib.BuilderAtF 43 5 b b p xs w' := by
    rintro p ⟨hB, v, hbk, hown, hne⟩
    have hlt : b < w.heap.size := (Array.getElem?_eq_some_iff.1 hbk).1
    refine ⟨hB, v, (hg.block b hlt (fun e => ?_)).trans hbk, hown.kept hg ?_, hne⟩
    · obtain ⟨c, fz, h2⟩ := hr b e.symm
      rw [h2] at hbk
      injection hbk with hbk
      injection hbk with _ hbk _
      exact absurd hbk (by decide)
    · cases hv : v.ownBlock with
      | none => exact .inl rfl
      | some g =>
        refine .inr (fun e => ?_)
        obtain ⟨c, fz, h2⟩ := hr g e.symm
        obtain ⟨c', fz', h3⟩ := Lib.ownsRowF_kind hown g hv
        rw [h2] at h3
        injection h3 with h3
        injection h3 with _ h3 _
        exact absurd h3 (by decide)
  rcases h with h | h
  · exact .inl (key _ h)
  · exact .inr (key _ h)
theorem ntr {B : Nat} {w w1 w2 : World} (a : Below B w w1) (b : Below B w1 w2) : Below B w w2 := a.trans b
theorem drop_at {α : Type} {L : List α} {i : Nat} {p : α} (h : L[i]? = some p) : L.drop i = p :: L.drop (i + 1) := by
  obtain ⟨hi, he⟩ := List.getElem?_eq_some_iff.1 h
  rw [List.drop_eq_getElem_cons hi, he]
theorem own_form9 {w : World} {b n size : Nat} {t : TypeId} {v : Value} {xs : List Value} (h : w.ownsRow b t size v n xs) : ∃ A c, v = .slice A n c := by
  rcases h.2 with ⟨rfl, rfl⟩ | ⟨g, cap, cur, rfl, _⟩
  · exact ⟨none, 0, rfl⟩
  · exact ⟨_, _, rfl⟩
theorem bs_self' (s : ByteArray) : (⟨s.data.toList.toArray⟩ : ByteArray) = s := ba_eq rfl
/-- String. -/
theorem bString (b : Nat) (a : ByteArray) (w : World) (h : Bu b a w) (hw : b ≤ w.heap.size) :
    Calls Tryd.prog 16 #[.pointer (some ⟨b, 0, none⟩)] w fun e w' => e = .returned (.string a) ∧ Lib.IsBuilderF 43 5 b b (Lib.byteCells a.data.toList) w' ∧ Below b w w' ∧ Lib.OthersKept 5 (some b) w w' := by
  have := Tryd.Builder_String_any_k b b a.data.toList w (Lib.IsBuilderF.of h) hw
  rw [bs_self'] at this
  exact this
abbrev strs (l : List ByteArray) : List Value := l.map Value.string
set_option maxRecDepth 100000 in
set_option maxHeartbeats 4000000 in
/-- Join. -/
theorem cJoin (L : List ByteArray) (v0 : Value) (w : World) (hL : L.length ≤ 40) (hT : tot L ≤ 4000) (h0 : StrsAt (fun k => k < w.heap.size) w v0 L) :
    Calls Tryd.prog 7 #[v0] w fun e w' => ∃ u, e = .returned u ∧ w'.ownsRow w.heap.size 9 1 u (jn ⟨#[]⟩ L).length (strs (jn ⟨#[]⟩ L)) ∧ Below w.heap.size w w' := by
  obtain ⟨A, cap, rfl, hc1, hc2, hA⟩ := h0
  obtain ⟨i0, hi0, hz0, hz1, hz2⟩ := info_parts infoStr
  have hAt : ∀ (i : Nat) (hi : i < L.length), ∃ g off, A = some ⟨g, off, none⟩ ∧ g < w.heap.size ∧ w.cell? ⟨g, off + i, none⟩ = some (.string L[i]) := fun i hi => by
    obtain ⟨g, off, e, hg, hx⟩ := hA (by omega)
    have := (hx i L[i] (List.getElem?_eq_getElem hi)).1
    rw [Nat.mul_one] at this
    exact ⟨g, off, e, hg, this⟩
  have HAt := Lib.hid hAt
  have HB0 : Hid (Bu w.heap.size ⟨#[]⟩ (w.alloc (.cells #[.pointer none, .slice none 0 0] 43))) := Lib.hid (.inl ⟨Nat.le_refl _, .slice none 0 0, heap_alloc_new w _, World.ownsRow_nil _ _ _ _, by simp [Value.ownBlock]⟩)
  have HBl := Lib.hid ((Below.refl w.heap.size w).alloc (Nat.le_refl _) (.cells #[.pointer none, .slice none 0 0] 43))
  have HT := Lib.hid hT
  clear hA hAt hT
  go_enter Tryd.func7, Tryd.ntmps7
  go_wp2_with fail
  go_loopw [3, 9] (fun v3 v9 wr => ∃ (i : Nat) (a : ByteArray) (Js : List ByteArray), i ≤ L.length ∧ v9 = .int .i64 i ∧ wr.ownsRow w.heap.size 9 1 v3 Js.length (strs Js) ∧ Bu w.heap.size a wr ∧ Below w.heap.size w wr ∧ Js ++ jn a (L.drop i) = jn ⟨#[]⟩ L ∧ a.size + tot (L.drop i) ≤ 4000 ∧ Js.length ≤ i) (fun _ v9 _ => L.length - (intOf v9).toNat)
  case atStart => exact ⟨0, ⟨#[]⟩, [], Nat.zero_le _, rfl, World.ownsRow_nil _ _ _ _, HB0.out, HBl.out, rfl, by show 0 + tot (L.drop 0) ≤ 4000; rw [List.drop_zero]; have := HT.out; omega, Nat.zero_le _⟩
  case round =>
    obtain ⟨i, a, Js, hi, rfl, ho, hbu, hb, hj, ht, hjl⟩ := hrel
    have HO := Lib.hid ho
    have HU := Lib.hid hbu
    have HB := Lib.hid hb
    have HJ := Lib.hid hj
    clear HB0 HBl hbu hb hj HT
    by_cases hlt : i < L.length
    · obtain ⟨g, off, rfl, hg, hc⟩ := HAt.out i hlt
      have hcr : wr.cell? ⟨g, off + i, none⟩ = some (.string L[i]) := (HB.out.cell (p := ⟨g, off + i, none⟩) hg).trans hc
      have hd := drop_at (List.getElem?_eq_getElem hlt)
      rw [hd, tot_cons] at ht
      have HD := Lib.hid hd
      obtain ⟨p, hp⟩ : ∃ p, p = L[i] := ⟨_, rfl⟩
      rw [← hp] at hcr ht HD
      have HG := Lib.hid (fun w => cGoes p (by omega) w)
      have hrl : (L.drop (i + 1)).isEmpty = decide (¬ i + 1 < L.length) := by
        rw [Bool.eq_iff_iff, List.isEmpty_iff, List.drop_eq_nil_iff, decide_eq_true_eq]; omega
      clear hc hd hp
      by_cases hcond : i + 1 < L.length ∧ oddB p = true
      · have hp1 := odd_pos hcond.2
        have hlt2 := hcond.1
        rw [hcond.2] at HG
        have e1 : (p.size : Int) - 1 = ((p.size - 1 : Nat) : Int) := by omega
        have hez : (p.extract 0 (p.size - 1)).size = p.size - 1 := by rw [extract_size _ _ _ (by omega)]; omega
        have HX : Hid (Js ++ jn (a ++ p.extract 0 (p.size - 1)) (L.drop (i + 1)) = jn ⟨#[]⟩ L) := Lib.hid (by
          rw [← HJ.out, HD.out, jn, if_pos (by rw [hrl, hcond.2]; simp; omega)])
        have HZ := Lib.hid hez
        clear hcond hrl hez ho
        go_wp2_with (first
          | (go_at_call 14; refine (HG.out _).mono ?_; rintro e w1 ⟨rfl, rfl⟩)
          | (go_at_call 15; refine (bWrite w.heap.size w.heap.size _ (p.extract 0 (p.size - 1)) _ HU.out (by have := HZ.out; rw [Lib.byteCells_length, ← size_len]; omega) HB.out.size).mono ?_; rintro e w1 ⟨rfl, hu1, hb1, hk1⟩; have HU1 := Lib.hid hu1; have HB1 := Lib.hid hb1; have HK1 := Lib.hid hk1; clear hu1 hb1 hk1))
        go_roundw
        case rel => exact ⟨i + 1, a ++ p.extract 0 (p.size - 1), Js, by omega, by go_num, own_others HO.out (Lib.IsBuilderF.of HU.out) HK1.out, by rw [bcells_app] at HU1; exact HU1.out, HB.out.trans HB1.out, HX.out, by
          have := HZ.out
          rw [size_len, app_data, List.length_append, ← size_len, ← size_len]
          omega, by omega⟩
        case measure => simp [intOf]; omega
      · have HX : Hid ((Js ++ [a ++ p]) ++ jn ⟨#[]⟩ (L.drop (i + 1)) = jn ⟨#[]⟩ L) := Lib.hid (by
          rw [← HJ.out, HD.out, jn, if_neg (by
            rw [hrl]
            intro e
            simp at e
            exact hcond ⟨by omega, e.2⟩)]
          simp)
        clear hrl ho
        by_cases hl2 : i + 1 < L.length
        · have hoP : oddB p = false := by
            cases h : oddB p
            · rfl
            · exact absurd ⟨hl2, h⟩ hcond
          rw [hoP] at HG
          clear hcond hoP
          go_wp2_with (first
            | (go_at_call 14; refine (HG.out _).mono ?_; rintro e w1 ⟨rfl, rfl⟩)
            | (go_at_call 15; refine (bWrite w.heap.size w.heap.size _ p _ HU.out (by rw [Lib.byteCells_length, ← size_len]; omega) HB.out.size).mono ?_; rintro e w1 ⟨rfl, hu1, hb1, hk1⟩; rw [bcells_app] at hu1; have HU1 := Lib.hid hu1; have HB1 := Lib.hid (HB.out.trans hb1); have HO1 := Lib.hid (own_others HO.out (Lib.IsBuilderF.of HU.out) hk1); clear hu1 hb1 hk1)
            | (go_at_call 16; refine (bString w.heap.size (a ++ p) _ HU1.out HB1.out.size).mono ?_; rintro e w2 ⟨rfl, hu2, hb2, hk2⟩; have HU2 := Lib.hid hu2; have HB2 := Lib.hid (HB1.out.trans hb2); have HO2 := Lib.hid (own_others HO1.out (Lib.IsBuilderF.of HU1.out) hk2); clear hu2 hb2 hk2)
            | (at_builtin
               refine wpList_append_own _ rfl (.tmp 31) (.tmp 33) 22 rfl w.heap.size 9 i0 (.string ⟨#[]⟩) 1 16 Tryd.underlying22 hi0 hz0 hz1 hz2 rfl (by decide) _ Js.length _ rfl (HO2.out.alloc _) ⟨w2.heap.size, 0, none⟩ 1 1 [.string (a ++ p)] rfl rfl (new_one' w2 _ _) (str_one _) (by unfold maxLen; omega) (by omega) (by have := HB2.out.size; simp; omega) ?_
               intro v4 w3 ho3 hg3 _
               have HU3 := Lib.hid (bu_grown (bu_grown HU2.out (World.grownBy_alloc w2 (.cells #[.string (a ++ p)] 9) none) (fun _ h => by cases h)) hg3 (own_kind9 (HO2.out.alloc (.cells #[.string (a ++ p)] 9))))
               have HB3 := Lib.hid ((HB2.out.alloc HB2.out.size (.cells #[.string (a ++ p)] 9)).grown hg3 (by have := HB2.out.size; simp; omega) (fun g hg => ((HO2.out.alloc (.cells #[.string (a ++ p)] 9)).lt g hg).1))
               have HO3 := Lib.hid ho3
               clear ho3 hg3)
            | (go_at_call 17; refine (bReset w.heap.size w.heap.size _ _ HU3.out).mono ?_; rintro e w4 ⟨rfl, hu4, hb4, hk4⟩; have HU4 := Lib.hid hu4; have HB4 := Lib.hid (HB3.out.trans hb4); have HO4 := Lib.hid (own_others HO3.out HU3.out hk4); clear hu4 hb4 hk4))
          go_roundw
          case rel => exact ⟨i + 1, ⟨#[]⟩, Js ++ [a ++ p], by omega, by go_num, by simpa using HO4.out, HU4.out, HB4.out, HX.out, by show 0 + tot (L.drop (i + 1)) ≤ 4000; omega, by simp; omega⟩
          case measure => simp [intOf]; omega
        · clear hcond HG
          go_wp2_with (first
            | (go_at_call 15; refine (bWrite w.heap.size w.heap.size _ p _ HU.out (by rw [Lib.byteCells_length, ← size_len]; omega) HB.out.size).mono ?_; rintro e w1 ⟨rfl, hu1, hb1, hk1⟩; rw [bcells_app] at hu1; have HU1 := Lib.hid hu1; have HB1 := Lib.hid (HB.out.trans hb1); have HO1 := Lib.hid (own_others HO.out (Lib.IsBuilderF.of HU.out) hk1); clear hu1 hb1 hk1)
            | (go_at_call 16; refine (bString w.heap.size (a ++ p) _ HU1.out HB1.out.size).mono ?_; rintro e w2 ⟨rfl, hu2, hb2, hk2⟩; have HU2 := Lib.hid hu2; have HB2 := Lib.hid (HB1.out.trans hb2); have HO2 := Lib.hid (own_others HO1.out (Lib.IsBuilderF.of HU1.out) hk2); clear hu2 hb2 hk2)
            | (at_builtin
               refine wpList_append_own _ rfl (.tmp 31) (.tmp 33) 22 rfl w.heap.size 9 i0 (.string ⟨#[]⟩) 1 16 Tryd.underlying22 hi0 hz0 hz1 hz2 rfl (by decide) _ Js.length _ rfl (HO2.out.alloc _) ⟨w2.heap.size, 0, none⟩ 1 1 [.string (a ++ p)] rfl rfl (new_one' w2 _ _) (str_one _) (by unfold maxLen; omega) (by omega) (by have := HB2.out.size; simp; omega) ?_
               intro v4 w3 ho3 hg3 _
               have HU3 := Lib.hid (bu_grown (bu_grown HU2.out (World.grownBy_alloc w2 (.cells #[.string (a ++ p)] 9) none) (fun _ h => by cases h)) hg3 (own_kind9 (HO2.out.alloc (.cells #[.string (a ++ p)] 9))))
               have HB3 := Lib.hid ((HB2.out.alloc HB2.out.size (.cells #[.string (a ++ p)] 9)).grown hg3 (by have := HB2.out.size; simp; omega) (fun g hg => ((HO2.out.alloc (.cells #[.string (a ++ p)] 9)).lt g hg).1))
               have HO3 := Lib.hid ho3
               clear ho3 hg3)
            | (go_at_call 17; refine (bReset w.heap.size w.heap.size _ _ HU3.out).mono ?_; rintro e w4 ⟨rfl, hu4, hb4, hk4⟩; have HU4 := Lib.hid hu4; have HB4 := Lib.hid (HB3.out.trans hb4); have HO4 := Lib.hid (own_others HO3.out HU3.out hk4); clear hu4 hb4 hk4))
          go_roundw
          case rel => exact ⟨i + 1, ⟨#[]⟩, Js ++ [a ++ p], by omega, by go_num, by simpa using HO4.out, HU4.out, HB4.out, HX.out, by show 0 + tot (L.drop (i + 1)) ≤ 4000; omega, by simp; omega⟩
          case measure => simp [intOf]; omega
    · obtain rfl : i = L.length := by omega
      have he : Js = jn ⟨#[]⟩ L := by
        have := HJ.out
        rw [List.drop_length, jn, List.append_nil] at this
        exact this
      have HE := Lib.hid he
      clear he
      go_wp2_with fail
      go_ret
      exact ⟨_, rfl, by rw [← HE.out]; exact HO.out, HB.out⟩
end Go.Proofs.YtbkcnopkibdlbaaDoor
