/- Walks: the document's put into an empty list, and put in one. -/
import Derived.Test.YtaamjccffkdlhaaGreatDoorMe
namespace Go.Proofs.YtaamjccffkdlhaaGreatDoor
open Go.RowKit Go.Maps Go.WideMaps Go.Joins

theorem row2 {w1 : World} {v2 : Value} {o : Obj} (h2 : v2.ownBlock = (Value.slice (some ⟨w1.heap.size, 0, none⟩) 0 0).ownBlock ∨ v2.ownBlock = some ((w1.alloc (.cells #[] 75)).alloc o).heap.size) :
    ∀ g, v2.ownBlock = some g → w1.heap.size ≤ g := by
  intro g hg
  rcases h2 with h2 | h2
  · rw [h2] at hg; simp [Value.ownBlock] at hg; omega
  · rw [h2] at hg; simp at hg; omega
set_option maxRecDepth 100000 in
set_option maxHeartbeats 1000000 in
/-- put, where there is no list yet. -/
theorem nPutNil (s : ByteArray) (r : Reg) (b x : Nat) (w : World) (h : RfAt b w x (.slice none 0 0) []) (hbw : b ≤ w.heap.size) :
    Calls Tryz.prog 51 #[.pointer (some ⟨x, 0, none⟩), rVal s r] w fun e w' => e = .returned (.int .i64 0) ∧ RfTo b w x (.slice none 0 0) w' [(s, r)] := by
  have hB0 := (Below.refl w.heap.size w).alloc (Nat.le_refl _) (.cells #[.string s, .int .i64 r.v, .int .i64 r.s, .string r.f] 75)
  have h1 := h.below hB0
  have hxl := h.blk.lt
  have hA := cAt s b x _ [] (by simp) _ h1
  rw [show ((idx [] s : Nat) : Int) = 0 from rfl, show hasB [] s = false from rfl] at hA
  have HA := Lib.hid hA
  have HB0 := Lib.hid hB0
  have H := Lib.hid h
  have HH := Lib.hid h1
  clear h hB0 h1 hA
  obtain ⟨i0, hi0, hz0, hz1, hz2⟩ := info_parts reg_info
  unfold rVal
  go_enter Tryz.func51, Tryz.ntmps51
  go_wp2_with (first
    | (go_at_call 54; refine HA.out.mono ?_; rintro e w1 ⟨rfl, hb1⟩; have hr1 := HH.out.below hb1; have c0 := hr1.c0; have hr1b := hr1.below ((Below.refl w1.heap.size w1).alloc (Nat.le_refl _) (.cells #[] 75)); have c01 := hr1b.c0; have ho1 := World.ownsRow_lit (e := 75) (size := 4) w1 #[] 0 (Nat.le_refl _) (by unfold maxLen; omega) rfl; have HO1 := Lib.hid ho1; have HR1 := Lib.hid hr1b; have HRw := Lib.hid hr1; clear hr1 hr1b
       have hB2 : Below w1.heap.size w1 (w1.alloc (.cells #[] 75)) := (Below.refl w1.heap.size w1).alloc (Nat.le_refl _) _
       have hz2' := ((Blk.new w 75 #[.string s, .int .i64 r.v, .int .i64 r.s, .string r.f]).below hb1 (by simp)).below hB2 (by have := hb1.size; simp at this; omega)
       have d0 := hz2'.cell 0
       have d1 := hz2'.cell 1
       have d2 := hz2'.cell 2
       have d3 := hz2'.cell 3
       clear hz2'
       simp only [List.getElem?_toArray, List.getElem?_cons_zero, List.getElem?_cons_succ] at d0 d1 d2 d3
       have ho2 := Lib.hid (ho1.alloc (.cells #[.string s, .int .i64 r.v, .int .i64 r.s, .string r.f] 75))
       have hn2 : Hid (Blk ((w1.alloc (.cells #[] 75)).alloc (.cells #[.string s, .int .i64 r.v, .int .i64 r.s, .string r.f] 75)) (w1.heap.size + 1) 75 #[.string s, .int .i64 r.v, .int .i64 r.s, .string r.f]) := Lib.hid (by have := Blk.new (w1.alloc (.cells #[] 75)) 75 #[.string s, .int .i64 r.v, .int .i64 r.s, .string r.f]; simpa using this)
       clear ho1)
    | (at_builtin
       refine wpList_append_own_none rfl (.tmp 29) (.tmp 35) _ rfl w1.heap.size 75 i0 4 Tryz.underlying27 hi0 _ 0 [] rfl HO1.out rfl ?_)
    | (at_builtin
       refine wpList_append_own_at _ rfl (.tmp 37) (.tmp 39) _ rfl w1.heap.size 75 i0 _ 4 48 Tryz.underlying27 hi0 hz0 hz1 hz2 rfl (by omega) _ 0 _ rfl ho2.out ⟨w1.heap.size + 1, 0, none⟩ 1 1 (rcs [(s, r)]) rfl
         rfl (cells_new hn2.out) (one_rcs _) (by unfold maxLen; omega) (by omega) (by first | (simp; done) | (simp; omega)) ?_
       intro v2 w3 hown2 hg2 _ hat2
       have hB3 : Below w1.heap.size w1 w3 := (hB2.alloc hB2.size _).grown hg2 (by first | (simp; done) | (simp; omega)) (fun k hk => by injection hk with hk; exact Nat.le_of_eq hk)
       have HR3 := Lib.hid (HRw.out.below hB3)
       have c03 := HR3.out.c0
       have f03 := HR3.out.blk.frozen 0
       have hv3 := Lib.hid (row2 hat2)
       obtain ⟨A3, c3, rfl⟩ := own_form hown2
       have HO3 := Lib.hid hown2
       clear hown2 d0 d1 d2 d3)
    | (at_builtin
       refine wpList_append_own_none rfl (.tmp 42) (.tmp 48) _ rfl w1.heap.size 75 i0 4 Tryz.underlying27 hi0 _ _ _ rfl HO3.out rfl ?_))
  go_ret
  have hb2 : Below w.heap.size w w1 := HB0.out.trans (hb1.mono (by simp))
  exact ⟨rfl, RfTo.laid H.out hbw (hb2.trans (hB3.mono hb2.size)) hb2.size HO3.out hv3.out rfl rfl rfl⟩
/-- What put answers, and what it leaves. -/
def putE (L : List Ent) (s : ByteArray) : Int := if hasB L s || decide (L.length < 500) then 0 else 9
def putL (L : List Ent) (s : ByteArray) (r : Reg) : List Ent := if hasB L s || decide (L.length < 500) then putR L s r else L
/-- put, of the document's book. -/
theorem nPut (s : ByteArray) (r : Reg) (b x : Nat) (v : Value) (L : List Ent) (hl : L.length ≤ 500) (w : World) (h : RfAt b w x v L) (hbw : b ≤ w.heap.size) :
    Calls Tryz.prog 51 #[.pointer (some ⟨x, 0, none⟩), rVal s r] w fun e w' => e = .returned (.int .i64 (putE L s)) ∧ RfTo b w x v w' (putL L s r) := by
  unfold putE putL
  cases hh : hasB L s
  · by_cases hr : L.length < 500
    · rw [show (false || decide (L.length < 500)) = true by rw [decide_eq_true hr]; rfl, if_pos rfl, if_pos rfl]
      rcases h.own.2 with ⟨rfl, e⟩ | ⟨g, cap, cur, rfl, _⟩
      · have hL : L = [] := List.length_eq_zero_iff.1 e
        subst hL
        exact nPutNil s r b x w h hbw
      · exact nPutNew s r b x g cap L hh hr w h hbw
    · rw [show (false || decide (L.length < 500)) = false by rw [decide_eq_false hr]; rfl]
      simp only [Bool.false_eq_true, if_false]
      exact nPutFull s r b x v L hl hh hr w h
  · simp only [Bool.true_or, if_true]
    exact nPutHas s r b x v L hl hh w h
end Go.Proofs.YtaamjccffkdlhaaGreatDoor
