/- Walk: own copies of lines, the document's. Walks: Lines, Macro, of the document's store. -/
import Derived.Test.YtbedddgfijpbcaaGreatRl
namespace Go.Proofs.YtbedddgfijpbcaaGreat
open Go.RowKit Go.Maps Go.WideMaps

section
variable {K : Nat → Prop} {w w' : World}
set_option maxRecDepth 100000 in
set_option maxHeartbeats 2000000 in
/-- OwnAll. -/
theorem nOwnAll (v : Value) (ls : List Ln) (h : LnsAt K w v ls) (hK : ∀ k, K k → k < w.heap.size) (hz : ls.length ≤ 1000000000000) :
    Calls Tryz.prog 39 #[v] w fun e w' => ∃ v', e = .returned v' ∧ LnsAt (fun k => w.heap.size ≤ k ∧ k < w'.heap.size) w' v' ls ∧ Below w.heap.size w w' := by
  obtain ⟨i0, hi0, hz0, hz1, hz2⟩ := info_parts line_info
  obtain ⟨A, cap, rfl, hn, hm, hrow⟩ := h
  have HRow := Lib.hid hrow
  have HK := Lib.hid hK
  clear hrow hK
  go_enter Tryz.func39, Tryz.ntmps39
  go_wp2
  go_loopw [3, 4] (fun v3 v4 wr => ∃ (k : Nat) (css : List (List Value)), k ≤ ls.length ∧ v4 = .int .i64 k ∧ RowGo 5 lnP w.heap.size 39 wr v3 (ls.take k) css ∧ Below w.heap.size w wr) (fun _ v4 _ => ls.length - (intOf v4).toNat)
  case atStart => exact ⟨0, [], Nat.zero_le _, rfl, RowGo.nil _ _ _, Below.refl _ _⟩
  case round =>
    obtain ⟨k, css, hk, rfl, hgo, hb⟩ := hrel
    by_cases hlt : k < ls.length
    · obtain ⟨g, off, rfl, hKg, hr⟩ := HRow.out (by omega)
      have hx := List.getElem?_eq_getElem hlt
      have hlx := hr k _ hx
      generalize ls[k] = x at *
      have hlx' : lnR K wr g (off + k * 5) x := hlx.stay hKg (Kept.of_below hb HK.out) (fun _ h => h)
      obtain ⟨c0, c1, c2, c3, ⟨vb, c4, hbs⟩, hs0, hs4⟩ := hlx'
      have HOwn := Lib.hid (nOwn x.text x.made x.up x.down vb x.boxes hbs (fun i hi => Nat.lt_of_lt_of_le (HK.out i hi) hb.size) hs4)
      obtain ⟨Ab, nb, cb, rfl⟩ : ∃ A n c, vb = .slice A n c := by
        obtain ⟨A, c, e, _⟩ := hbs
        exact ⟨A, _, c, e⟩
      have hlk : (ls.take k).length = k := by rw [List.length_take]; omega
      have hown := hgo.2.1
      rw [hlk] at hown
      obtain ⟨A3, c3', rfl, _, _⟩ := own_form2 hown
      have htk : ls.take (k + 1) = ls.take k ++ [x] := by
        obtain ⟨hk2, e2⟩ := List.getElem?_eq_some_iff.1 hx
        rw [List.take_succ_eq_append_getElem hk2, e2]
      have HSt : Hid (∀ (w1 : World) (v' : Value), Below wr.heap.size wr w1 → BxsAt (fun k => wr.heap.size ≤ k ∧ k < w1.heap.size) w1 v' x.boxes → (w1.alloc (.cells #[.string x.text, .bool x.made, .int .i64 x.up, .int .i64 x.down, v'] 39)).ownsRow w.heap.size 39 5 (.slice A3 k c3') k css.flatten ∧
          ∀ (w6 : World) (v1 : Value), (w1.alloc (.cells #[.string x.text, .bool x.made, .int .i64 x.up, .int .i64 x.down, v'] 39)).grownBy w6 (Value.slice A3 k c3').ownBlock → w6.ownsRow w.heap.size 39 5 v1 (k + 1) (css.flatten ++ [.string x.text, .bool x.made, .int .i64 x.up, .int .i64 x.down, v']) → (v1.ownBlock = (Value.slice A3 k c3').ownBlock ∨ v1.ownBlock = some (w1.alloc (.cells #[.string x.text, .bool x.made, .int .i64 x.up, .int .i64 x.down, v'] 39)).heap.size) →
          RowGo 5 lnP w.heap.size 39 w6 v1 (ls.take (k + 1)) (css ++ [[.string x.text, .bool x.made, .int .i64 x.up, .int .i64 x.down, v']]) ∧ Below w.heap.size w w6) := Lib.hid (fun w1 v' hb1 hv' => by
        have hb5 := hb1.alloc hb1.size (.cells #[.string x.text, .bool x.made, .int .i64 x.up, .int .i64 x.down, v'] 39)
        have ho5 := own_turn (S := fun _ => False) hown (Turn.of_below hb5) (fun _ _ => id)
        refine ⟨ho5, fun w6 v1 hg hown1 hat => ⟨?_, (hb.trans (hb5.mono hb.size)).grown hg (by have := hb.size; have := hb5.size; omega) (fun q hq => own_ge ho5 hq)⟩⟩
        have hg5 := RowGo.below (P := lnP) (fun h a b => h.stay a b) hgo hb5
        rw [htk]
        refine RowGo.step (P := lnP) (fun h a b => h.stay a b) hg5 (x := x) hg rfl ⟨v', rfl, hv'.stay (Kept.of_all ((Below.refl _ _).alloc (Nat.le_refl _) _)) (fun i hi => ⟨by have := hb.size; have := hi.1; omega, by have := hi.2; simp; omega, fun e => by have := (hown.lt i e).2; have := hi.1; omega⟩), hs0, hs4⟩ (by rw [hlk]; exact hown1) hat)
      clear hgo hlk htk hown hbs hlx hr hx
      go_wp2_with (first
        | (go_at_call 72; refine HOwn.out.mono ?_; rintro e w1 ⟨v', rfl, hv', hb1⟩; obtain ⟨Av, nv, cv, rfl⟩ : ∃ A n c, v' = .slice A n c := (by obtain ⟨A, c, e, _⟩ := hv'; exact ⟨A, _, c, e⟩); obtain ⟨HO5, hstep⟩ := HSt.out w1 _ hb1 hv'; have HStep := Lib.hid hstep; have HO := Lib.hid HO5; have hn5 := Lib.hid (Blk.new w1 39 #[.string x.text, .bool x.made, .int .i64 x.up, .int .i64 x.down, .slice Av nv cv]); clear hstep HO5 hv')
        | (at_builtin
           refine wpList_append_own_at _ rfl (.tmp 11) (.tmp 17) _ rfl w.heap.size 39 i0 _ 5 64 Tryz.underlying31 hi0 hz0 hz1 hz2 rfl (by omega) (.slice A3 k c3') k _ rfl HO.out ⟨w1.heap.size, 0, none⟩ 1 1 [.string x.text, .bool x.made, .int .i64 x.up, .int .i64 x.down, .slice Av nv cv] rfl
             rfl (cells_new hn5.out) (by intro u hu; simp only [List.mem_cons, List.not_mem_nil, or_false] at hu; rcases hu with rfl | rfl | rfl | rfl | rfl <;> rfl) (by unfold maxLen; omega) (by omega) (by have := hb.size; have := hb1.size; simp; omega) ?_
           intro v1 w6 hown1 hg1 _ hat1))
      go_roundw
      case rel =>
        obtain ⟨q1, q2⟩ := HStep.out w6 v1 hg1 hown1 hat1
        exact ⟨k + 1, _, by omega, by go_num, q1, q2⟩
      case measure => simp [intOf]; omega
    · have e : k = ls.length := by omega
      subst e
      rw [List.take_length] at hgo
      have hrow := (RowGo.row (P := lnP) (R := lnR) (fun h hc => h.r hc) (fun h hK => h.on hK) hgo)
      have HR := Lib.hid hrow
      clear hgo hrow
      go_wp2
      go_ret
      exact ⟨_, rfl, HR.out, hb⟩
end
end Go.Proofs.YtbedddgfijpbcaaGreat
namespace Go.Proofs.YtbedddgfijpbcaaGreat
open Go.RowKit Go.Maps Go.WideMaps

theorem enL_lines (en : En) : enL en = en.lines := by cases en <;> rfl
theorem enL_len {en : En} (h : okE en) : (enL en).length ≤ 2000 := by
  cases en with
  | str t => show 1 ≤ 2000; omega
  | mac ls => exact h
section
variable {U K : Nat → Prop} {w w' : World} {x : Nat} {M : List Ent} {es : List En}
set_option maxHeartbeats 1000000 in
/-- Lines. -/
theorem nLines (s : ByteArray) (h : RSt U K w x M es) :
    Calls Tryz.prog 64 #[.pointer (some ⟨x, 0, none⟩), .string s] w fun e w' => ∃ A n c, e = .returned (.tuple #[.slice A n c, .int .i64 (fdE M s)]) ∧ LnsAt (fun k => w.heap.size ≤ k ∧ k < w'.heap.size) w' (.slice A n c) (lnOf M (eF es) s) ∧ Below w.heap.size w w' := by
  have hT := nThere s h
  unfold fdE at hT ⊢
  unfold lnOf
  cases hh : hasB M s
  · rw [hh] at hT
    simp only [Bool.false_eq_true, if_false] at hT ⊢
    have HT := Lib.hid hT
    clear hT h
    go_enter Tryz.func64, Tryz.ntmps64
    go_wp2_with (go_at_call 56; refine HT.out.mono ?_; rintro e w1 ⟨rfl, rfl⟩)
    go_ret2
    exact ⟨none, 0, 0, rfl, RowAt.nil, Below.refl _ _⟩
  · rw [hh] at hT
    simp only [if_true] at hT ⊢
    have HT := Lib.hid hT
    have hat := h.at_ hh
    obtain ⟨k, hk⟩ : ∃ k : Nat, getR M s = k := ⟨_, rfl⟩
    simp only [hk] at HT hat ⊢
    have hat : @LT.lt Nat _ k es.length := hat
    obtain ⟨g, c, v, c2, hc, d0, d1, hl, ho⟩ := h.q2 k hat
    have HZ := Lib.hid (nOwnAll v _ hl h.sets.2.2 (Nat.le_trans (enL_len ho) (by omega)))
    obtain ⟨A, nn, cc, rfl⟩ : ∃ A n c, v = .slice A n c := by
      obtain ⟨A, c, e, _⟩ := hl
      exact ⟨A, _, c, e⟩
    rw [← enL_lines]
    clear hT h hk hh hl ho
    generalize eF es k = en at *
    go_enter Tryz.func64, Tryz.ntmps64
    go_wp2_with (first
      | (go_at_call 56; refine HT.out.mono ?_; rintro e w1 ⟨rfl, rfl⟩)
      | (go_at_call 39; refine HZ.out.mono ?_; rintro e w2 ⟨v', rfl, hv', hb2⟩; obtain ⟨Av, nv, cv, rfl⟩ : ∃ A n c, v' = .slice A n c := (by obtain ⟨A, c, e, _⟩ := hv'; exact ⟨A, _, c, e⟩); have HV := Lib.hid hv'; clear hv'))
    go_ret2
    exact ⟨Av, nv, cv, rfl, HV.out, hb2⟩
set_option maxRecDepth 100000 in
set_option maxHeartbeats 1000000 in
/-- Macro. -/
theorem nMacro (s : ByteArray) (K0 : Nat → Prop) (v : Value) (ls : List Ln) (hs : s.size ≤ maxLen) (hll : ls.length ≤ 10000000000000) (hv : LnsAt K0 w v ls) (hK0 : ∀ k, K0 k → k < w.heap.size) (hz : es.length ≤ 1000000) (h : RSt U K w x M es) :
    Calls Tryz.prog 26 #[.pointer (some ⟨x, 0, none⟩), .string s, v] w fun e w' => e = .returned (.int .i64 (mcE M s ls)) ∧ RTo U K w w' x (dnM (lnsB ls && nameB s && decide (ls.length ≤ 2000)) M es s) (dnZ (lnsB ls && nameB s && decide (ls.length ≤ 2000)) M es s (.mac ls)) := by
  have HZ := Lib.hid (nNo h)
  have HT := Lib.hid (nLns K0 v ls w hv hK0)
  have HN := Lib.hid (fun w => nName s hs w)
  have HS := Lib.hid (fun w' (hb : Below w.heap.size w w') => RTo.same h hb)
  obtain ⟨Av, cv, rfl, hn1, _, _⟩ := id hv
  unfold mcE chk dnM dnZ
  cases hx : lnsB ls
  · rw [hx] at HT
    simp only [Bool.false_and, Bool.false_eq_true, if_false]
    rw [if_neg (by decide)]
    clear h hv
    go_enter Tryz.func26, Tryz.ntmps26
    go_wp2_with (first
      | (go_at_call 38; refine HZ.out.mono ?_; rintro e w1 ⟨rfl, rfl⟩)
      | (go_at_call 54; refine HT.out.mono ?_; rintro e w1 ⟨rfl, hb1⟩))
    go_ret
    exact ⟨rfl, HS.out _ hb1⟩
  · rw [hx] at HT
    cases hn : nameB s
    · rw [hn] at HN
      simp only [Bool.and_false, Bool.false_and, Bool.false_eq_true, if_false, if_true]
      rw [show erI false 6 = (6 : Int) from rfl, if_neg (by decide)]
      clear h hv
      go_enter Tryz.func26, Tryz.ntmps26
      go_wp2_with (first
        | (go_at_call 38; refine HZ.out.mono ?_; rintro e w1 ⟨rfl, rfl⟩)
        | (go_at_call 54; refine HT.out.mono ?_; rintro e w1 ⟨rfl, hb1⟩)
        | (go_at_call 51; refine (HN.out _).mono ?_; rintro e w2 ⟨rfl, rfl⟩))
      go_ret
      exact ⟨rfl, HS.out _ hb1⟩
    · rw [hn] at HN
      simp only [Bool.and_true, Bool.true_and, if_true]
      rw [show erI true 6 = (0 : Int) from rfl, if_pos rfl]
      by_cases hl : ls.length ≤ 2000
      · rw [decide_eq_true hl, if_neg (by omega), ← ptI_E]
        simp only [if_true]
        have HO := Lib.hid (fun (w1 : World) (hb : Below w.heap.size w w1) => nOwnAll (.slice Av ls.length cv) ls (hv.stay (Kept.of_below hb hK0) (fun _ h => h)) (fun k hk => Nat.lt_of_lt_of_le (hK0 k hk) hb.size) (by omega))
        have HP : Hid (∀ (w1 w2 : World) (A : Option Addr) (n c : Nat), Below w.heap.size w w1 → Below w1.heap.size w1 w2 → LnsAt (fun k => w1.heap.size ≤ k ∧ k < w2.heap.size) w2 (.slice A n c) ls → Calls Tryz.prog 52 #[.pointer (some ⟨x, 0, none⟩), .string s, .agg #[.int .i64 2, .slice A n c]] w2 fun r w' => r = .returned (.int .i64 (ptI M s)) ∧ RTo U K w w' x (ptM M es s) (ptZ M es s (.mac ls))) := Lib.hid (fun w1 w2 A n c hb1 hb2 hl2 => by
          have hb := ntrans hb1 hb2
          have hb1s := hb1.size
          exact (nPut s (.mac ls) A n c hn hz (hl2.stay (fun _ _ _ => rfl) (fun i hi => .inr ⟨Nat.le_trans hb1s hi.1, hi.2⟩)) hl (h.since hb)).mono fun r w' ⟨e1, e2⟩ => ⟨e1, RTo.since hb e2⟩)
        clear h hv
        generalize ptI M s = pe at HP ⊢
        go_enter Tryz.func26, Tryz.ntmps26
        go_wp2_with (first
          | (go_at_call 38; refine HZ.out.mono ?_; rintro e w1 ⟨rfl, rfl⟩)
          | (go_at_call 54; refine HT.out.mono ?_; rintro e w1 ⟨rfl, hb1⟩)
          | (go_at_call 51; refine (HN.out _).mono ?_; rintro e w2 ⟨rfl, rfl⟩)
          | (go_at_call 39; refine (HO.out _ hb1).mono ?_; rintro e w2 ⟨v', rfl, hv', hb2⟩; obtain ⟨A2, n2, c2, rfl⟩ : ∃ A n c, v' = .slice A n c := (by obtain ⟨A, c, e, _⟩ := hv'; exact ⟨A, _, c, e⟩); have HV := Lib.hid hv'; clear hv')
          | (go_at_call 52; refine (HP.out _ _ _ _ _ hb1 hb2 HV.out).mono ?_; rintro e w3 ⟨rfl, hq⟩))
        go_ret
        exact ⟨rfl, hq⟩
      · rw [decide_eq_false hl, if_pos (by omega)]
        simp only [Bool.false_eq_true, if_false]
        have hlI : (2000 : Int) < (ls.length : Nat) := by omega
        clear h hv
        go_enter Tryz.func26, Tryz.ntmps26
        go_wp2_with (first
          | (go_at_call 38; refine HZ.out.mono ?_; rintro e w1 ⟨rfl, rfl⟩)
          | (go_at_call 54; refine HT.out.mono ?_; rintro e w1 ⟨rfl, hb1⟩)
          | (go_at_call 51; refine (HN.out _).mono ?_; rintro e w2 ⟨rfl, rfl⟩))
        go_ret
        exact ⟨rfl, HS.out _ hb1⟩
end
end Go.Proofs.YtbedddgfijpbcaaGreat
