/- Walk of the code's stack: a file's frame. -/
import Derived.Test.YtpgkhhchpojlaaaGreatDoorCh
namespace Go.Proofs.YtpgkhhchpojlaaaGreatDoor
open Go.RowKit Go.Maps Go.WideMaps

theorem RowGo.turn {α : Type} {sz b : Nat} {P : (Nat → Prop) → World → List Value → α → Prop} {t : TypeId} {w w1 : World} {v : Value} {l : List α} {css : List (List Value)} {S : Nat → Prop} (hP : ∀ {K K' : Nat → Prop} {w w' : World} {cs : List Value} {x : α}, P K w cs x → Kept K w w' → (∀ i, K i → K' i) → P K' w' cs x) (h : RowGo sz P b t w v l css) (hT : Turn S w w1) (hS : ∀ i, S i → i < b) : RowGo sz P b t w1 v l css := by
  refine ⟨h.1, own_turn h.2.1 hT (fun g hg hs => by have := own_ge h.2.1 hg; have := hS g hs; omega), fun i x hx => ?_⟩
  obtain ⟨cs, h1, h2, h3⟩ := h.2.2 i x hx
  exact ⟨cs, h1, h2, hP h3 (Kept.of_turn hT (fun k hk hs => by have := hS k hs; omega)) (fun k hk => ⟨hk.1, Nat.lt_of_lt_of_le hk.2.1 hT.size, hk.2.2⟩)⟩
set_option maxRecDepth 100000 in
set_option maxHeartbeats 1000000 in
theorem cFileFrame (n s : ByteArray) (hs : s.size ≤ 1000000) (w : World) :
    Calls Tryz.prog 45 #[.string n, .string s] w fun e w' => ∃ A k c, e = .returned (.agg #[.int .i64 1, .string n, .slice A k c, .int .i64 0, .slice none 0 0]) ∧ LnsAt (fun k => w.heap.size ≤ k ∧ k < w'.heap.size) w' (.slice A k c) (rdL s) ∧ Below w.heap.size w w' := by
  obtain ⟨i0, hi0, hz0, hz1, hz2⟩ := info_parts line_info
  have hll := lnsT_len s
  obtain ⟨w0, hw0⟩ : ∃ w0, w0 = (w.alloc (.cells #[.int .i64 0, .string ⟨#[]⟩, .slice none 0 0, .int .i64 0, .slice none 0 0] 62)).alloc (.cells #[.int .i64 1, .string n, .slice none 0 0, .int .i64 0, .slice none 0 0] 62) := ⟨_, rfl⟩
  have hB1 : Below w.heap.size w (w.alloc (.cells #[.int .i64 0, .string ⟨#[]⟩, .slice none 0 0, .int .i64 0, .slice none 0 0] 62)) := (Below.refl _ _).alloc (Nat.le_refl _) _
  have hB0 : Below w.heap.size w w0 := by rw [hw0]; exact hB1.alloc hB1.size _
  have hs0 : w0.heap.size = w.heap.size + 2 := by rw [hw0]; simp
  have hb4 : Blk w0 w.heap.size 62 #[.int .i64 0, .string ⟨#[]⟩, .slice none 0 0, .int .i64 0, .slice none 0 0] := by rw [hw0]; exact (Blk.new _ _ _).alloc _
  have hb5 : Blk w0 (w.heap.size + 1) 62 #[.int .i64 1, .string n, .slice none 0 0, .int .i64 0, .slice none 0 0] := by rw [hw0]; have := Blk.new (w.alloc (.cells #[.int .i64 0, .string ⟨#[]⟩, .slice none 0 0, .int .i64 0, .slice none 0 0] 62)) 62 #[.int .i64 1, .string n, .slice none 0 0, .int .i64 0, .slice none 0 0]; rwa [World.size_alloc] at this
  have HL := Lib.hid (cLines s w0 hs)
  have HSz := Lib.hid (lnsT_size s)
  have H4 := Lib.hid (fun w1 (hb : Below w0.heap.size w0 w1) => hb4.below hb hb4.lt)
  have H5 := Lib.hid (fun w1 (hb : Below w0.heap.size w0 w1) => hb5.below hb hb5.lt)
  have HB0 := Lib.hid hB0
  have HS0 := Lib.hid hs0
  unfold rdL
  generalize lnsT s = L at *
  clear hB1 hb4 hb5 hB0 hs0
  subst hw0
  go_enter Tryz.func45, Tryz.ntmps45
  go_wp2_with (go_at_call 67; refine HL.out.mono ?_; rintro e w1 ⟨A, nn, cap, rfl, hv, hb1⟩; obtain ⟨A', cap', e, hn, hm, hrow⟩ := id hv; injection e with e1 e2 e3; subst e1 e2 e3; have HRow := Lib.hid hrow; have HB1 := Lib.hid hb1; clear hrow hv hb1)
  unfold maxLen at hm
  generalize (w.alloc (.cells #[.int .i64 0, .string ⟨#[]⟩, .slice none 0 0, .int .i64 0, .slice none 0 0] 62)).alloc (.cells #[.int .i64 1, .string n, .slice none 0 0, .int .i64 0, .slice none 0 0] 62) = w0 at *
  go_loopw [13] (fun v13 wr => ∃ (k : Nat) (v : Value) (css : List (List Value)), k ≤ L.length ∧ v13 = .int .i64 k ∧ RowGo 5 lnP w1.heap.size 31 wr v ((L.map tLn).take k) css ∧ Blk wr (w.heap.size + 1) 62 #[.int .i64 1, .string n, v, .int .i64 0, .slice none 0 0] ∧ Turn (· = w.heap.size + 1) w1 wr) (fun v13 _ => L.length - (intOf v13).toNat)
  case atStart => exact ⟨0, _, [], Nat.zero_le _, rfl, RowGo.nil _ _ _, H5.out _ HB1.out, Turn.refl _ _⟩
  case round =>
    obtain ⟨k, v, css, hk, rfl, hgo, hb5, hT⟩ := hrel
    have hs1 := HB1.out.size
    have hs0 := HS0.out
    have hsr := hT.size
    by_cases hlt : k < L.length
    · obtain ⟨g, off, rfl, hKg, hr⟩ := HRow.out (by omega)
      have hx := List.getElem?_eq_getElem hlt
      obtain ⟨c0, hs0'⟩ := hr k _ hx
      have hz := HSz.out _ (List.mem_of_getElem? hx)
      generalize L[k] = y at *
      rw [Nat.mul_one] at c0
      have c1 : wr.cell? ⟨g, off + k, none⟩ = some (.string y) := (cell_same (p := ⟨g, off + k, none⟩) (hT.block g (cell_lt c0) (fun e => by have := hKg.1; omega))).trans c0
      have HX := Lib.hid hx
      clear hx hr c0
      have hlk : ((L.map tLn).take k).length = k := by rw [List.length_take, List.length_map]; omega
      have hown := hgo.2.1
      rw [hlk] at hown
      obtain ⟨A5, c5, rfl, _, _⟩ := own_form2 hown
      have hbn : Below wr.heap.size wr (wr.alloc (.cells #[.string y, .bool false, .int .i64 0, .int .i64 0, .slice none 0 0] 31)) := (Below.refl _ _).alloc (Nat.le_refl _) _
      have HO5 := Lib.hid (own_turn (S := fun _ => False) hown (Turn.of_below hbn) (fun _ _ => id))
      have hn5 := Lib.hid (Blk.new wr 31 #[.string y, .bool false, .int .i64 0, .int .i64 0, .slice none 0 0])
      have hg5 := RowGo.below (P := lnP) (fun h a b => h.stay a b) hgo hbn
      have htk : (L.map tLn).take (k + 1) = (L.map tLn).take k ++ [tLn y] := by
        obtain ⟨hk2, e2⟩ := List.getElem?_eq_some_iff.1 HX.out
        rw [List.take_succ_eq_append_getElem (by rw [List.length_map]; exact hk2), List.getElem_map, e2]
      have d2 : wr.cell? ⟨w.heap.size + 1, 2, none⟩ = some (.slice A5 k c5) := hb5.cell 2
      have HStep : Hid (∀ (v1 : Value) (w6 : World), (wr.alloc (.cells #[.string y, .bool false, .int .i64 0, .int .i64 0, .slice none 0 0] 31)).grownBy w6 (Value.slice A5 k c5).ownBlock → w6.ownsRow w1.heap.size 31 5 v1 (k + 1) (css.flatten ++ [.string y, .bool false, .int .i64 0, .int .i64 0, .slice none 0 0]) → (v1.ownBlock = (Value.slice A5 k c5).ownBlock ∨ v1.ownBlock = some (wr.alloc (.cells #[.string y, .bool false, .int .i64 0, .int .i64 0, .slice none 0 0] 31)).heap.size) →
          w6.cell? ⟨w.heap.size + 1, 2, none⟩ = some (.slice A5 k c5) ∧ w6.frozen? ⟨w.heap.size + 1, 2, none⟩ = false ∧ RowGo 5 lnP w1.heap.size 31 (w6.setCell ⟨w.heap.size + 1, 2, none⟩ v1) v1 ((L.map tLn).take (k + 1)) (css ++ [[.string y, .bool false, .int .i64 0, .int .i64 0, .slice none 0 0]]) ∧ Blk (w6.setCell ⟨w.heap.size + 1, 2, none⟩ v1) (w.heap.size + 1) 62 #[.int .i64 1, .string n, v1, .int .i64 0, .slice none 0 0] ∧ Turn (· = w.heap.size + 1) w1 (w6.setCell ⟨w.heap.size + 1, 2, none⟩ v1)) := Lib.hid (fun v1 w6 hg hown1 hat => by
        have hne : some (w.heap.size + 1) ≠ (Value.slice A5 k c5).ownBlock := fun e => by have := own_ge HO5.out e.symm; omega
        have hb6 := (hb5.alloc (.cells #[.string y, .bool false, .int .i64 0, .int .i64 0, .slice none 0 0] 31)).grown hg hne
        have hst := RowGo.step (P := lnP) (w2 := w6) (v1 := v1) (fun h a b => h.stay a b) hg5 (x := tLn y) (cs := [.string y, .bool false, .int .i64 0, .int .i64 0, .slice none 0 0]) hg rfl ⟨.slice none 0 0, rfl, RowAt.nil, by show y.size ≤ _; omega, Nat.zero_le _⟩ (by rw [hlk]; exact hown1) hat
        rw [← htk] at hst
        have hT2 := turn_set w6 (w.heap.size + 1) 2 v1
        refine ⟨hb6.cell 2, hb6.frozen 2, RowGo.turn (fun h a b => h.stay a b) hst hT2 (fun i hi => by omega), blk_set hb6 v1, ((hT.trans (Turn.of_below hbn : Turn (· = w.heap.size + 1) wr _) (fun _ _ h => h)).trans (Turn.of_row hg) (fun i hi e => ?_)).trans hT2 (fun _ _ h => h)⟩
        have := own_ge HO5.out e
        omega)
      clear hgo hg5 htk hown hb5
      go_wp2_with (at_builtin
                   refine wpList_append_own_at _ rfl (.tmp 18) (.tmp 21) _ rfl w1.heap.size 31 i0 _ 5 64 Tryz.underlying35 hi0 hz0 hz1 hz2 rfl (by omega) (.slice A5 k c5) k _ rfl HO5.out ⟨wr.heap.size, 0, none⟩ 1 1 [.string y, .bool false, .int .i64 0, .int .i64 0, .slice none 0 0] rfl
                     rfl (cells_new hn5.out) (by intro u hu; simp only [List.mem_cons, List.not_mem_nil, or_false] at hu; rcases hu with rfl | rfl | rfl | rfl | rfl <;> rfl) (by unfold maxLen; omega) (by omega) (by simp; omega) ?_
                   intro v1 w6 hown1 hg1 _ hat1
                   obtain ⟨Av1, cv1, rfl, _, _⟩ := own_form2 hown1
                   obtain ⟨q1, q2, q3, q4, q5⟩ := HStep.out _ w6 hg1 hown1 hat1
                   have Q3 := Lib.hid q3
                   have Q4 := Lib.hid q4
                   have Q5 := Lib.hid q5
                   clear q3 q4 q5 hown1 hg1 hat1)
      go_roundw
      case rel => exact ⟨k + 1, _, _, by omega, by go_num, Q3.out, Q4.out, Q5.out⟩
      case measure => simp [intOf]; omega
    · have e : k = L.length := by omega
      subst e
      rw [show (L.map tLn).take L.length = L.map tLn from List.take_of_length_le (by rw [List.length_map]; exact Nat.le_refl _)] at hgo
      have hrow := (RowGo.row (P := lnP) (R := lnR) (fun h hc => h.r hc) (fun h hK => h.on hK) hgo)
      obtain ⟨A5, c5, rfl, _, _⟩ := own_form2 hgo.2.1
      have hlen : (L.map tLn).length = L.length := List.length_map ..
      rw [hlen] at hb5 hrow
      have h4 : Blk wr w.heap.size 62 #[.int .i64 0, .string ⟨#[]⟩, .slice none 0 0, .int .i64 0, .slice none 0 0] := hT.blk (H4.out _ HB1.out) (fun e => by omega)
      have f0 := h4.frozen 0
      have f1 := h4.frozen 1
      have f2 := h4.frozen 2
      have f3 := h4.frozen 3
      have f4 := h4.frozen 4
      have e0 := h4.cell 0
      have e1 := h4.cell 1
      have e2 := h4.cell 2
      have e3 := h4.cell 3
      have e4 := h4.cell 4
      have d0 := hb5.cell 0
      have d1 := hb5.cell 1
      have d2 := hb5.cell 2
      have d3 := hb5.cell 3
      have d4 := hb5.cell 4
      simp only [List.getElem?_toArray, List.getElem?_cons_zero, List.getElem?_cons_succ] at e0 e1 e2 e3 e4 d0 d1 d2 d3 d4
      obtain ⟨hT6, hR6⟩ := res_set h4 (.int .i64 1) (.string n) (.slice A5 L.length c5) (.int .i64 0) (.slice none 0 0)
      have hB6 : Below w.heap.size w wr := hT.below (HB0.out.trans (HB1.out.mono HB0.out.size)) (by omega) (fun i hi => by omega)
      have HBe := Lib.hid (hT6.below hB6 (by omega) (fun i hi => by omega))
      have HRow6 := Lib.hid (LnsAt.stay hrow (K' := fun k => w.heap.size ≤ k ∧ k < wr.heap.size) (Kept.of_turn hT6 (fun i hi e => by omega)) (fun i hi => ⟨by omega, hi.2⟩))
      have p0 := hR6.cell 0
      have p1 := hR6.cell 1
      have p2 := hR6.cell 2
      have p3 := hR6.cell 3
      have p4 := hR6.cell 4
      simp only [List.getElem?_toArray, List.getElem?_cons_zero, List.getElem?_cons_succ] at p0 p1 p2 p3 p4
      have HP := Lib.hid (And.intro p0 (And.intro p1 (And.intro p2 (And.intro p3 p4))))
      have hsz6 := Lib.hid hT6.size
      clear hgo hrow h4 hb5 hT6 hR6 hB6 p0 p1 p2 p3 p4
      go_wp2_with fail
      obtain ⟨p0, p1, p2, p3, p4⟩ := HP.out
      exact bodyPost_ret (v := .agg #[.int .i64 1, .string n, .slice A5 L.length c5, .int .i64 0, .slice none 0 0]) (by simp [results, Tryz.results45, go_sem, p0, p1, p2, p3, p4]) rfl ⟨A5, _, c5, rfl, LnsAt.stay HRow6.out (fun _ _ _ => rfl) (fun i hi => ⟨hi.1, Nat.lt_of_lt_of_le hi.2 hsz6.out⟩), HBe.out⟩
end Go.Proofs.YtpgkhhchpojlaaaGreatDoor
