/- Walk: Copy, of the document's store. Walk: Copy, of the document's store, whole. -/
import Derived.Test.YtbedddgfijpbcaaGreatTb
import Derived.Deep.RegionHeld3
namespace Go.Proofs.YtbedddgfijpbcaaGreat
open Go.RowKit Go.Maps Go.WideMaps

/-- An entry's cells. -/
def enP (K : Nat → Prop) (w : World) (cs : List Value) (en : En) : Prop := ∃ v, cs = [.int .i64 en.kind, v] ∧ LnsAt K w v (enL en) ∧ okE en
theorem enP.stay {K K' : Nat → Prop} {w w' : World} {cs : List Value} {en : En} (h : enP K w cs en) (hw : Kept K w w') (hK : ∀ i, K i → K' i) : enP K' w' cs en := by
  obtain ⟨v, e, h1, h2⟩ := h
  exact ⟨v, e, h1.stay hw hK, h2⟩
theorem enP.zs {K : Nat → Prop} {w : World} : ∀ {es : List En} {css : List (List Value)}, css.length = es.length → (∀ (i : Nat) x, es[i]? = some x → ∃ cs, css[i]? = some cs ∧ enP K w cs x) →
    ∃ zs : List (En × Value), zs.map (·.1) = es ∧ c2 enF zs = css.flatten ∧ ∀ z ∈ zs, LnsAt K w z.2 (enL z.1) ∧ okE z.1
  | [], [], _, _ => ⟨[], rfl, rfl, fun z h => by cases h⟩
  | [], _ :: _, h, _ => by cases h
  | _ :: _, [], h, _ => by cases h
  | en :: es, cs :: css, hl, h => by
    obtain ⟨cs', h1, v, e, h2, h3⟩ := h 0 en rfl
    have h1 : cs = cs' := by simpa using h1
    subst h1
    subst e
    obtain ⟨zs, q1, q2, q3⟩ := enP.zs (es := es) (css := css) (by simpa using hl) (fun i x hx => h (i + 1) x (by simpa using hx))
    refine ⟨(en, v) :: zs, by rw [List.map_cons, q1], by rw [c2_cons, q2]; rfl, fun z hz => ?_⟩
    rcases List.mem_cons.1 hz with rfl | hz
    · exact ⟨h2, h3⟩
    · exact q3 z hz
section
variable {U K : Nat → Prop} {w w' : World} {x : Nat} {M : List Ent} {es : List En}
set_option maxRecDepth 100000 in
/-- append, of names onto a new empty row. -/
theorem runNm (h : RSt U K w x M es) (ty : TypeId) : ∃ A n c A' c' w3, w.cell? ⟨x, 1, none⟩ = some (.slice A n c) ∧ (Builtin.append_ #[47, 47] ty #[.slice (some ⟨w.heap.size, 0, none⟩) 0 0, .slice A n c]).run Tryz.prog (w.alloc (.cells #[] 81)) = .ok (.slice A' M.length c') w3 ∧
    w3.ownsRow w.heap.size 81 2 (.slice A' M.length c') M.length (c2 nmF M) ∧ Below w.heap.size w w3 ∧ w.heap.size < w3.heap.size := by
  obtain ⟨i0, hi0, hz0, hz1, hz2⟩ := info_parts name_info
  obtain ⟨zs, nv, ev, h, rfl⟩ := h
  obtain ⟨A, c, rfl, hc, hA⟩ := own_form2 h.nms
  have hlen := h.len
  have hb1 : Below w.heap.size w (w.alloc (.cells #[] 81)) := (Below.refl _ _).alloc (Nat.le_refl _) _
  have ho := World.ownsRow_lit (e := 81) (size := 2) w #[] 0 (Nat.le_refl _) (by unfold maxLen; omega) rfl
  by_cases h0 : M.length = 0
  · have hM : M = [] := List.length_eq_zero_iff.1 h0
    subst hM
    refine ⟨A, 0, c, _, 0, _, h.q1, run_append_zero (P := Tryz.prog) _ 47 ty 81 i0 Tryz.underlying47 hi0 (some ⟨w.heap.size, 0, none⟩) 0 0 (Nat.le_refl _) A c, ?_, hb1, by simp⟩
    exact ho
  · obtain ⟨g, rfl⟩ := hA (by omega)
    have hnews : ∀ j u, (c2 nmF M)[j]? = some u → (w.alloc (.cells #[] 81)).cell? ((⟨g, 0, none⟩ : Addr).add j) = some u := fun j u hj => by
      have hjl := (List.getElem?_eq_some_iff.1 hj).1
      rw [c2_len] at hjl
      have hc := h.nms.cellAt j hjl
      rw [off_add, Nat.zero_add]
      rw [hj] at hc
      exact (hb1.cell (p := ⟨g, j, none⟩) (cell_lt hc)).trans hc
    obtain ⟨v', w3, q1, q2, q3, q4, q5⟩ := run_append_own_at (P := Tryz.prog) (w.alloc (.cells #[] 81)) w.heap.size 47 ty 81 i0 _ 2 24 Tryz.underlying47 hi0 hz0 hz1 hz2 rfl (by omega) (.slice (some ⟨w.heap.size, 0, none⟩) 0 0) 0 [] ho ⟨g, 0, none⟩ M.length c (c2 nmF M) (c2_len M) hnews
      (one_c2 nm_one M) (by unfold maxLen; omega) (by omega) (by simp)
    rw [Nat.zero_add, List.nil_append] at q2
    obtain ⟨A', c', rfl, _, _⟩ := own_form2 q2
    have hb3 : Below w.heap.size w w3 := hb1.grown q3 (by simp) (fun k hk => by injection hk with hk; exact Nat.le_of_eq hk)
    exact ⟨_, _, c, A', c', w3, h.q1, q1, q2, hb3, Nat.lt_of_lt_of_le (by simp) q3.size⟩
/-- What the loop of Copy has: the names' row, the entries so far. -/
def CpAt (B : Nat) (w : World) (y : Nat) (A : Option Addr) (c : Nat) (M : List Ent) (ev : Value) (es : List En) (css : List (List Value)) : Prop :=
  Blk w y 50 #[.bool true, .slice A M.length c, ev] ∧ w.ownsRow B 81 2 (.slice A M.length c) M.length (c2 nmF M) ∧ (∀ g, (Value.slice A M.length c).ownBlock = some g → g < y) ∧ B ≤ y ∧ RowGo 2 enP (y + 1) 62 w ev es css
theorem CpAt.fin {B y c : Nat} {A : Option Addr} {ev : Value} {css : List (List Value)} (h0 : RSt U K w x M es) (h : CpAt B w' y A c M ev es css) : ∃ U' K', RSt U' K' w' y M es ∧ (∀ i, U' i → B ≤ i) ∧ (∀ i, K' i → B ≤ i) := by
  obtain ⟨h1, h2, h3, h4, h5, h6, h7⟩ := h
  obtain ⟨zs, q1, q2, q3⟩ := enP.zs h5 (fun i x hx => by
    obtain ⟨cs, a1, _, a3⟩ := h7 i x hx
    exact ⟨cs, a1, a3⟩)
  have hlz : zs.length = es.length := by rw [← q1, List.length_map]
  obtain ⟨s1, s2, s3⟩ := h0.srt
  have hats : ∀ p ∈ M, p.2 < zs.length := fun p hp => by
    have h8 := h0.at_ (mem_has s1 hp).1
    rw [(mem_has s1 hp).2] at h8
    rw [hlz]; exact h8
  have hyl := h1.lt
  have hnl := h2.lt
  have hel := h6.lt
  refine ⟨fun i => i = y ∨ ev.ownBlock = some i, fun i => (Value.slice A M.length c).ownBlock = some i ∨ (y + 1 ≤ i ∧ i < w'.heap.size ∧ ev.ownBlock ≠ some i), ⟨zs, _, _, ⟨h1, own_base h2 (Nat.zero_le _), ?_, fun z hz => ⟨(q3 z hz).1.stay (fun _ _ _ => rfl) (fun i hi => .inr hi), (q3 z hz).2⟩, s1, s2, s3, hats, .inl rfl, fun g hg => .inr hg, fun g hg => .inl hg, ?_, ?_, ?_⟩, q1⟩, ?_, ?_⟩
  · rw [hlz, q2]
    exact own_base h6 (Nat.zero_le _)
  · rintro i (rfl | hi) (hk | hk)
    · have := h3 _ hk; omega
    · omega
    · have := (hel i hi).1
      have := h3 _ hk
      omega
    · exact hk.2.2 hi
  · rintro i (rfl | hi)
    · exact hyl
    · exact (hel i hi).2
  · rintro i (hi | hi)
    · exact (hnl i hi).2
    · exact hi.2.1
  · rintro i (rfl | hi)
    · exact h4
    · have := (hel i hi).1; omega
  · rintro i (hi | hi)
    · exact (hnl i hi).1
    · omega
end
end Go.Proofs.YtbedddgfijpbcaaGreat
namespace Go.Proofs.YtbedddgfijpbcaaGreat
open Go.RowKit Go.Maps Go.WideMaps

theorem RowGo.turn {α : Type} {sz b : Nat} {P : (Nat → Prop) → World → List Value → α → Prop} {t : TypeId} {w w1 : World} {v : Value} {l : List α} {css : List (List Value)} {S : Nat → Prop} (hP : ∀ {K K' : Nat → Prop} {w w' : World} {cs : List Value} {x : α}, P K w cs x → Kept K w w' → (∀ i, K i → K' i) → P K' w' cs x) (h : RowGo sz P b t w v l css) (hT : Turn S w w1) (hS : ∀ i, S i → i < b) : RowGo sz P b t w1 v l css := by
  refine ⟨h.1, own_turn h.2.1 hT (fun g hg s => by have := (h.2.1.lt g hg).1; have := hS _ s; omega), fun i x hx => ?_⟩
  obtain ⟨cs, h1, h2, h3⟩ := h.2.2 i x hx
  exact ⟨cs, h1, h2, hP h3 (Kept.of_turn hT (fun i hi s => by have := hS i s; have := hi.1; omega)) (fun k hk => ⟨hk.1, Nat.lt_of_lt_of_le hk.2.1 hT.size, hk.2.2⟩)⟩
section
variable {U K : Nat → Prop} {w w' : World} {x : Nat} {M : List Ent} {es : List En}
theorem en_two (en : En) {A : Option Addr} {n c : Nat} : ∀ u ∈ [Value.int .i64 en.kind, .slice A n c], u.oneCell' = true := by
  intro u hu
  simp only [List.mem_cons, List.not_mem_nil, or_false] at hu
  rcases hu with rfl | rfl <;> rfl
/-- One more entry. -/
theorem CpAt.more {B y c k : Nat} {wr w2 : World} {A : Option Addr} {ev : Value} {css : List (List Value)} {en : En} (h : CpAt B wr y A c M ev (es.take k) css) (hk : es[k]? = some en) (hB : Below B w wr) (hBs : B ≤ wr.heap.size) (hb : Below wr.heap.size wr w2) {Av : Option Addr} {nv cv : Nat} (hv : LnsAt (fun i => wr.heap.size ≤ i ∧ i < w2.heap.size) w2 (.slice Av nv cv) (enL en)) (ho : okE en) (hz : es.length ≤ 1000000) (ty : TypeId) :
    ∃ A4 c4 w3, (Builtin.append_ #[48, 48] ty #[ev, .slice (some ⟨w2.heap.size, 0, none⟩) 1 1]).run Tryz.prog (w2.alloc (.cells #[.int .i64 en.kind, .slice Av nv cv] 62)) = .ok (.slice A4 (k + 1) c4) w3 ∧
      w3.cell? ⟨y, 2, none⟩ = some ev ∧ w3.frozen? ⟨y, 2, none⟩ = false ∧ CpAt B (w3.setCell ⟨y, 2, none⟩ (.slice A4 (k + 1) c4)) y A c M (.slice A4 (k + 1) c4) (es.take (k + 1)) (css ++ [[.int .i64 en.kind, .slice Av nv cv]]) ∧ Below B w (w3.setCell ⟨y, 2, none⟩ (.slice A4 (k + 1) c4)) ∧ Below B w w3 := by
  obtain ⟨i0, hi0, hz0, hz1, hz2⟩ := info_parts entry_info
  obtain ⟨h1, h2, h3, h4, h5⟩ := h
  have hkl := (List.getElem?_eq_some_iff.1 hk).1
  have hlk : (es.take k).length = k := by rw [List.length_take]; omega
  have hbW : Below wr.heap.size wr (w2.alloc (.cells #[.int .i64 en.kind, .slice Av nv cv] 62)) := hb.alloc hb.size _
  have hg5 := RowGo.below (P := enP) (fun h a b => h.stay a b) h5 hbW
  have hown := hg5.2.1
  rw [hlk] at hown
  have hyl := h1.lt
  have hsW := hbW.size
  obtain ⟨Ae, ce, rfl, _, _⟩ := own_form2 hown
  obtain ⟨v', w3, q1, q2, q3, _, q5⟩ := run_append_own_at (P := Tryz.prog) (w2.alloc (.cells #[.int .i64 en.kind, .slice Av nv cv] 62)) (y + 1) 48 ty 62 i0 _ 2 32 Tryz.underlying48 hi0 hz0 hz1 hz2 rfl (by omega) (.slice Ae k ce) k _ hown ⟨w2.heap.size, 0, none⟩ 1 1 [.int .i64 en.kind, .slice Av nv cv] rfl
    (cells_new (Blk.new w2 62 #[.int .i64 en.kind, .slice Av nv cv])) (en_two en) (by unfold maxLen; omega) (by omega) (by omega)
  obtain ⟨A4, c4, rfl, _, _⟩ := own_form2 q2
  have hT3 := Turn.of_row q3
  have hev : ∀ g, (Value.slice Ae k ce).ownBlock = some g → y + 1 ≤ g := fun g hg => own_ge hown hg
  have hblk3 : Blk w3 y 50 #[.bool true, .slice A M.length c, .slice Ae k ce] := hT3.blk ((hbW.block y hyl).trans h1) (fun e => by have := hev _ e; omega)
  have hTs := turn_set w3 y 2 (.slice A4 (k + 1) c4)
  have htk : es.take (k + 1) = es.take k ++ [en] := by
    obtain ⟨hk2, e2⟩ := List.getElem?_eq_some_iff.1 hk
    rw [List.take_succ_eq_append_getElem hk2, e2]
  have hstep := RowGo.step (P := enP) (fun h a b => h.stay a b) hg5 (x := en) (cs := [.int .i64 en.kind, .slice Av nv cv]) q3 rfl ⟨_, rfl, hv.stay (Kept.of_all ((Below.refl _ _).alloc (Nat.le_refl _) _)) (fun i hi => ⟨by omega, by have := hi.2; simp; omega, fun e => by have := (h5.2.1.lt i e).2; omega⟩), ho⟩ (by rw [hlk]; exact q2) q5
  have hB3 : Below B w w3 := hT3.below (hB.trans (hbW.mono hBs)) (by omega) (fun i e => by have := hev i e; omega)
  refine ⟨A4, c4, w3, q1, hblk3.cell 2, hblk3.frozen 2, ⟨blk_set hblk3 (o := 2) _, ?_, h3, h4, ?_⟩, ?_, hB3⟩
  · refine own_turn (own_turn (own_turn (S := fun _ => False) h2 (Turn.of_below hbW) (fun _ _ => id)) hT3 (fun g hg e => ?_)) hTs (fun g hg e => ?_)
    · have := hev _ e; have := h3 g hg; omega
    · have := h3 g hg; omega
  · rw [htk]
    exact RowGo.turn (P := enP) (fun h a b => h.stay a b) hstep hTs (fun i e => by omega)
  · exact hTs.below hB3 (by have := hT3.size; omega) (fun i e => by omega)
set_option maxRecDepth 100000 in
set_option maxHeartbeats 2000000 in
/-- Copy. -/
theorem nCopy (hz : es.length ≤ 1000000) (h : RSt U K w x M es) :
    Calls Tryz.prog 13 #[.pointer (some ⟨x, 0, none⟩)] w fun e w' => ∃ y U' K', e = .returned (.pointer (some ⟨y, 0, none⟩)) ∧ RSt U' K' w' y M es ∧ (∀ i, U' i → w.heap.size ≤ i) ∧ (∀ i, K' i → w.heap.size ≤ i) ∧ Below w.heap.size w w' := by
  have HZ := Lib.hid (nNo h)
  obtain ⟨An, n, cn, A', c', w3, x1, hrun, hown, hb3, hlt3⟩ := runNm h 47
  have hbk1 := (show ∀ v, w.cell? ⟨x, 1, none⟩ = some v → (w.alloc (.cells #[] 81)).cell? ⟨x, 1, none⟩ = some v from fun v hv => ((Below.refl w.heap.size w).alloc (Nat.le_refl _) (.cells #[] 81)).cell (p := ⟨x, 1, none⟩) (cell_lt hv) |>.trans hv) _ x1
  have HRun := Lib.hid hrun
  have hb4 : Below w.heap.size w (w3.alloc (.cells #[.bool true, .slice A' M.length c', .slice none 0 0] 50)) := hb3.alloc hb3.size _
  have hst : CpAt w.heap.size (w3.alloc (.cells #[.bool true, .slice A' M.length c', .slice none 0 0] 50)) w3.heap.size A' c' M (.slice none 0 0) (es.take 0) [] := ⟨Blk.new _ _ _, hown.alloc _, fun g hg => (hown.lt g hg).2, hb3.size, RowGo.nil _ _ _⟩
  have HSt := Lib.hid hst
  have HB4 := Lib.hid hb4
  have HX := Lib.hid h
  have hx2 : ∃ A n c, w.cell? ⟨x, 2, none⟩ = some (.slice A n c) ∧ n = es.length := by
    obtain ⟨zs, nv, ev, h, rfl⟩ := h
    obtain ⟨A, c, rfl, _⟩ := own_form2 h.ens
    exact ⟨A, _, c, h.q2, by rw [List.length_map]⟩
  obtain ⟨Ax, nx, cx, x2, rfl⟩ := hx2
  have HX2 := Lib.hid (fun (w1 : World) (hb : Below w.heap.size w w1) => (hb.cell (p := ⟨x, 2, none⟩) (cell_lt x2)).trans x2)
  clear h hrun hown hb3 hb4 hst x2
  go_enter Tryz.func13, Tryz.ntmps13
  go_wp2_with (first
    | (go_at_call 38; refine HZ.out.mono ?_; rintro e w1 ⟨rfl, rfl⟩)
    | (at_builtin; refine wpList_append_run _ rfl (.tmp 7) (.tmp 11) _ rfl _ _ rfl rfl _ _ HRun.out ?_))
  clear hbk1 x1 HRun
  generalize w3.heap.size = y at *
  generalize (w3.alloc (.cells #[.bool true, .slice A' M.length c', .slice none 0 0] 50)) = w4 at *
  go_loopw [4] (fun v4 wr => ∃ (k : Nat) (ev : Value) (css : List (List Value)), k ≤ es.length ∧ v4 = .int .i64 k ∧ Hid (CpAt w.heap.size wr y A' c' M ev (es.take k) css) ∧ Below w.heap.size w wr) (fun v4 _ => es.length - (intOf v4).toNat)
  case atStart => exact ⟨0, _, _, Nat.zero_le _, rfl, HSt, HB4.out⟩
  case round =>
    clear HSt
    obtain ⟨k, ev, css, hk, rfl, HC, hb⟩ := hrel
    have x2 := HX2.out _ hb
    have HB := Lib.hid hb
    by_cases hlt : k < es.length
    · obtain ⟨g, c, v, c2, hc, d0, d1, hl, ho⟩ := HX.out.q2 k hlt
      have hx := List.getElem?_eq_getElem hlt
      have hE : eF es k = es[k] := by
        unfold eF
        rw [List.getD_eq_getElem?_getD, hx]; rfl
      rw [hE] at d0 hl ho
      generalize es[k] = en at *
      obtain ⟨Av, nv, cv, rfl⟩ : ∃ A n c, v = .slice A n c := by
        obtain ⟨A, c, e, _⟩ := hl
        exact ⟨A, _, c, e⟩
      have hev : ∃ A n c, ev = .slice A n c := by
        obtain ⟨A, c, e, _⟩ := own_form2 HC.out.2.2.2.2.2.1
        exact ⟨A, _, c, e⟩
      obtain ⟨Ae, ne, ce, rfl⟩ := hev
      have HC2 := Lib.hid (fun (w1 : World) (hb : Below w.heap.size w w1) => (⟨(hb.cell (p := ⟨x, 2, none⟩) (cell_lt c2)).trans c2, (hb.cell (p := ⟨g, k * 2, none⟩) (cell_lt d0)).trans d0, (hb.cell (p := ⟨g, k * 2 + 1, none⟩) (cell_lt d1)).trans d1⟩ : w1.cell? ⟨x, 2, none⟩ = some (.slice (some ⟨g, 0, none⟩) es.length c) ∧ w1.cell? ⟨g, k * 2, none⟩ = some (.int .i64 en.kind) ∧ w1.cell? ⟨g, k * 2 + 1, none⟩ = some (.slice Av nv cv)))
      have hAx : Ax = some ⟨g, 0, none⟩ ∧ cx = c := by
        have h1 := (HC2.out _ hb).1
        rw [x2] at h1
        injection h1 with h1
        injection h1 with h1 _ h2
        exact ⟨h1, h2⟩
      obtain ⟨rfl, rfl⟩ := hAx
      clear x2
      obtain ⟨x2, e0, e1⟩ := HC2.out _ hb
      have hyb := HC.out.1
      have y2 := hyb.cell 2
      simp only [List.getElem?_toArray, List.getElem?_cons_zero, List.getElem?_cons_succ] at y2
      have HY := Lib.hid (fun (w1 : World) (hb : Below wr.heap.size wr w1) => (hb.cell (p := ⟨y, 2, none⟩) (cell_lt y2)).trans y2)
      have hKl := HX.out.sets.2.2
      have hdr : Below w.heap.size w wr.drew := hb.trans (((Below.refl wr.heap.size wr).drew).mono hb.size)
      have HOwn := Lib.hid (nOwnAll (.slice Av nv cv) (enL en) (hl.stay (K' := K) (Kept.of_below hdr hKl) (fun _ h => h)) (fun i hi => Nat.lt_of_lt_of_le (hKl i hi) hdr.size) (Nat.le_trans (enL_len ho) (by omega)))
      have HMore := Lib.hid (fun (w2 : World) (hb2 : Below wr.heap.size wr w2) (A5 : Option Addr) (n5 c5 : Nat) (hv : LnsAt (fun i => wr.heap.size ≤ i ∧ i < w2.heap.size) w2 (.slice A5 n5 c5) (enL en)) => HC.out.more (w := w) hx hb hb.size hb2 hv ho hz 48)
      have HX3 := Lib.hid hx
      clear hyb hl hx hdr hE c2 d0 d1 hb
      generalize en.kind = kd at *
      go_wp2_with fail
      have HBd := Lib.hid (HB.out.trans (((Below.refl wr.heap.size wr).drew).mono HB.out.size))
      refine wp_region_held_drew (S := fun w' => w'.cell? ⟨x, 2, none⟩ = some (.slice (some ⟨g, 0, none⟩) es.length cx) ∧ w'.cell? ⟨g, k * 2, none⟩ = some (.int .i64 kd) ∧ w'.cell? ⟨g, k * 2 + 1, none⟩ = some (.slice Av nv cv)) (by kernel_rfl) (HC2.out _ HBd.out) (fun hHeld => ?_)
      refine wpAnyH_take (i := 0) (oi := _) (v := ?_) rfl (by kernel_rfl) (by kernel_rfl) (by kernel_rfl) (fun _ _ _ h => h) (Or.inl ⟨by rfl, ?_⟩) (by assumption) ?_
      rotate_left
      · (intro w hSw; (try dsimp only at hSw); first | (go_simp; done) | (go_simp; with_reducible rfl))
      try simp only [Act.put, List.setIfInBounds_toArray]
      refine wpAnyH_take (i := 1) (oi := _) (v := ?_) rfl (by kernel_rfl) (by kernel_rfl) (by kernel_rfl) (fun _ _ _ h => h) (Or.inl ⟨by rfl, ?_⟩) (by assumption) ?_
      rotate_left
      · (intro w hSw; (try dsimp only at hSw); first | (go_simp; done) | (go_simp; with_reducible rfl))
      try simp only [Act.put]
      refine wpAnyH_take (i := 2) (oi := _) (v := ?_) rfl (by kernel_rfl) (by kernel_rfl) (by kernel_rfl) (fun _ _ _ h => h) (Or.inl ⟨by rfl, ?_⟩) (by assumption) ?_
      rotate_left
      · (intro w hSw; (try dsimp only at hSw); first | (go_simp; done) | (go_simp; with_reducible rfl))
      try simp only [Act.put]
      refine wpAnyH_take (i := 3) (oi := _) (v := ?_) rfl (by kernel_rfl) (by kernel_rfl) (by kernel_rfl) (fun _ _ _ h => h) (Or.inl ⟨by rfl, ?_⟩) (by assumption) ?_
      rotate_left
      · (intro w hSw; (try dsimp only at hSw); first | (go_simp; done) | (go_simp; with_reducible rfl))
      try simp only [Act.put]
      refine wpAnyH_take (i := 5) (oi := _) (v := ?_) rfl (by kernel_rfl) (by kernel_rfl) (by kernel_rfl) (fun _ _ _ h => h) (Or.inl ⟨by rfl, ?_⟩) (by assumption) ?_
      rotate_left
      · (intro w hSw; (try dsimp only at hSw); first | (go_simp; done) | (go_simp; with_reducible rfl))
      try simp only [Act.put]
      refine wpAnyH_take (i := 6) (oi := _) (v := ?_) rfl (by kernel_rfl) (by kernel_rfl) (by kernel_rfl) (fun _ _ _ h => h) (Or.inl ⟨by rfl, ?_⟩) (by assumption) ?_
      rotate_left
      · (intro w hSw; (try dsimp only at hSw); first | (go_simp; done) | (go_simp; with_reducible rfl))
      try simp only [Act.put]
      refine wpAnyH_take (i := 7) (oi := _) (v := ?_) rfl (by kernel_rfl) (by kernel_rfl) (by kernel_rfl) (fun _ _ _ h => h) (Or.inl ⟨by rfl, ?_⟩) (by assumption) ?_
      rotate_left
      · (intro w hSw; (try dsimp only at hSw); first | (go_simp; done) | (go_simp; with_reducible rfl))
      try simp only [Act.put]
      refine wpAnyH_take (i := 8) (oi := _) (v := ?_) rfl (by kernel_rfl) (by kernel_rfl) (by kernel_rfl) (fun _ _ _ h => h) (Or.inl ⟨by rfl, ?_⟩) (by assumption) ?_
      rotate_left
      · (intro w hSw; (try dsimp only at hSw); first | (go_simp; done) | (go_simp; with_reducible rfl))
      try simp only [Act.put]
      refine wpAnyH_take (i := 9) (oi := _) (v := ?_) rfl (by kernel_rfl) (by kernel_rfl) (by kernel_rfl) (fun _ _ _ h => h) (Or.inl ⟨by rfl, ?_⟩) (by assumption) ?_
      rotate_left
      · (intro w hSw; (try dsimp only at hSw); first | (go_simp; done) | (go_simp; with_reducible rfl))
      try simp only [Act.put]
      refine wpAnyH_take (i := 10) (oi := _) (v := ?_) rfl (by kernel_rfl) (by kernel_rfl) (by kernel_rfl) (fun _ _ _ h => h) (Or.inl ⟨by rfl, ?_⟩) (by assumption) ?_
      rotate_left
      · (intro w hSw; (try dsimp only at hSw); first | (go_simp; done) | (go_simp; with_reducible rfl))
      try simp only [Act.put]
      refine wpAnyH_take (i := 11) (oi := _) (v := ?_) rfl (by kernel_rfl) (by kernel_rfl) (by kernel_rfl) (fun _ _ _ h => h) (Or.inl ⟨by rfl, ?_⟩) (by assumption) ?_
      rotate_left
      · (intro w hSw; (try dsimp only at hSw); first | (go_simp; done) | (go_simp; with_reducible rfl))
      try simp only [Act.put]
      refine wpAnyH_take (i := 12) (oi := _) (v := ?_) rfl (by kernel_rfl) (by kernel_rfl) (by kernel_rfl) (fun _ _ _ h => h) (Or.inl ⟨by rfl, ?_⟩) (by assumption) ?_
      rotate_left
      · (intro w hSw; (try dsimp only at hSw); first | (go_simp; done) | (go_simp; with_reducible rfl))
      try simp only [Act.put]
      refine wpAnyH_take (i := 13) (oi := _) (v := ?_) rfl (by kernel_rfl) (by kernel_rfl) (by kernel_rfl) (fun _ _ _ h => h) (Or.inl ⟨by rfl, ?_⟩) (by assumption) ?_
      rotate_left
      · (intro w hSw; (try dsimp only at hSw); first | (go_simp; done) | (go_simp; with_reducible rfl))
      try simp only [Act.put]
      refine wpAnyH_take (i := 14) (oi := _) (v := ?_) rfl (by kernel_rfl) (by kernel_rfl) (by kernel_rfl) (fun _ _ _ h => h) (Or.inl ⟨by rfl, ?_⟩) (by assumption) ?_
      rotate_left
      · (intro w hSw; (try dsimp only at hSw); first | (go_simp; done) | (go_simp; with_reducible rfl))
      try simp only [Act.put]
      refine wpAnyH_take (i := 15) (oi := _) (v := ?_) rfl (by kernel_rfl) (by kernel_rfl) (by kernel_rfl) (fun _ _ _ h => h) (Or.inl ⟨by rfl, ?_⟩) (by assumption) ?_
      rotate_left
      · (intro w hSw; (try dsimp only at hSw); first | (go_simp; done) | (go_simp; with_reducible rfl))
      try simp only [Act.put]
      refine wpAnyH_take (i := 16) (oi := _) (v := ?_) rfl (by kernel_rfl) (by kernel_rfl) (by kernel_rfl) (fun _ _ _ h => h) (Or.inl ⟨by rfl, ?_⟩) (by assumption) ?_
      rotate_left
      · (intro w hSw; (try dsimp only at hSw); first | (go_simp; done) | (go_simp; with_reducible rfl))
      try simp only [Act.put]
      refine wpAnyH_take (i := 17) (oi := _) (v := ?_) rfl (by kernel_rfl) (by kernel_rfl) (by kernel_rfl) (fun _ _ _ h => h) (Or.inl ⟨by rfl, ?_⟩) (by assumption) ?_
      rotate_left
      · (intro w hSw; (try dsimp only at hSw); first | (go_simp; done) | (go_simp; with_reducible rfl))
      try simp only [Act.put]
      refine wpAnyH_take (i := 18) (oi := _) (v := ?_) rfl (by kernel_rfl) (by kernel_rfl) (by kernel_rfl) (fun _ _ _ h => h) (Or.inl ⟨by rfl, ?_⟩) (by assumption) ?_
      rotate_left
      · (intro w hSw; (try dsimp only at hSw); first | (go_simp; done) | (go_simp; with_reducible rfl))
      try simp only [Act.put]
      refine wpAnyH_take (i := 19) (oi := _) (v := ?_) rfl (by kernel_rfl) (by kernel_rfl) (by kernel_rfl) (fun _ _ _ h => h) (Or.inl ⟨by rfl, ?_⟩) (by assumption) ?_
      rotate_left
      · (intro w hSw; (try dsimp only at hSw); first | (go_simp; done) | (go_simp; with_reducible rfl))
      try simp only [Act.put]
      refine wpAnyH_take (i := 20) (oi := _) (v := ?_) rfl (by kernel_rfl) (by kernel_rfl) (by kernel_rfl) (fun _ _ _ h => h) (Or.inl ⟨by rfl, ?_⟩) (by assumption) ?_
      rotate_left
      · (intro w hSw; (try dsimp only at hSw); first | (go_simp; done) | (go_simp; with_reducible rfl))
      try simp only [Act.put]
      refine wpAnyH_ready (rs := [4, 21]) (by kernel_rfl) (by simp) ?_
      refine AllReadyH.cons (o := _) rfl (fun K hK => ?_) ?_
      · go_simp
        refine hK.out _ _ ?_ (fun hHeld => ?_)
        · first | exact HC2.out _ HB.out | exact HC2.out _ HBd.out | exact HC2.out _ HBw.out | exact HC2.out _ (HBw.out.alloc HBw.out.size _) | exact HC2.out _ HB6.out | exact HC2.out _ QB.out
        clear hK K
        try simp only [Act.put, List.setIfInBounds_toArray, List.set_cons_zero, List.set_cons_succ]
        refine wpAnyH_ready (rs := [21]) (by kernel_rfl) (by simp) ?_
        refine AllReadyH.cons (o := _) rfl (fun K hK => ?_) ?_
        · go_simp
          go_at_call 39; refine HOwn.out.mono ?_; rintro r w2 ⟨v5, rfl, hv5, hb2⟩; obtain ⟨A5, n5, c5, rfl⟩ : ∃ A n c, v5 = .slice A n c := (by obtain ⟨A, c, e, _⟩ := hv5; exact ⟨A, _, c, e⟩); have hb2' : Below wr.heap.size wr w2 := ((Below.refl wr.heap.size wr).drew).trans hb2; obtain ⟨A4, c4, w6, qrun, qc, qf, qC, qB, qB6⟩ := HMore.out w2 hb2' A5 n5 c5 hv5; have y3 := HY.out _ hb2'; have y4 := HY.out _ (hb2'.alloc hb2'.size (.cells #[.int .i64 kd, .slice A5 n5 c5] 62)); have HBw := Lib.hid (HB.out.trans (hb2'.mono HB.out.size)); have HB6 := Lib.hid qB6; have QC := Lib.hid qC; have QB := Lib.hid qB; clear qC qB qB6 hv5
          refine hK.out _ _ ?_ (fun hHeld => ?_)
          · first | exact HC2.out _ HB.out | exact HC2.out _ HBd.out | exact HC2.out _ HBw.out | exact HC2.out _ (HBw.out.alloc HBw.out.size _) | exact HC2.out _ HB6.out | exact HC2.out _ QB.out
          clear hK K
          try simp only [Act.put, List.setIfInBounds_toArray, List.set_cons_zero, List.set_cons_succ]
          refine wpAnyH_take (i := 22) (oi := _) (v := ?_) rfl (by kernel_rfl) (by kernel_rfl) (by kernel_rfl) (fun _ _ _ h => h) (Or.inl ⟨by rfl, ?_⟩) (by assumption) ?_
          rotate_left
          · (intro w hSw; (try dsimp only at hSw); first | (go_simp; done) | (go_simp; with_reducible rfl))
          try simp only [Act.put, List.setIfInBounds_toArray]
          refine wpAnyH_ready (rs := [23]) (by kernel_rfl) (by simp) ?_
          refine AllReadyH.cons (o := _) rfl (fun K hK => ?_) ?_
          · go_simp
            refine hK.out _ _ ?_ (fun hHeld => ?_)
            · first | exact HC2.out _ HB.out | exact HC2.out _ HBd.out | exact HC2.out _ HBw.out | exact HC2.out _ (HBw.out.alloc HBw.out.size _) | exact HC2.out _ HB6.out | exact HC2.out _ QB.out
            clear hK K
            try simp only [Act.put, List.setIfInBounds_toArray, List.set_cons_zero, List.set_cons_succ]
            refine wpAnyH_ready (rs := [24]) (by kernel_rfl) (by simp) ?_
            refine AllReadyH.cons (o := _) rfl (fun K hK => ?_) ?_
            · refine step_run rfl (.tmp 28) (.tmp 47) _ rfl _ _ rfl rfl _ _ qrun ?_
              refine hK.out _ _ ?_ (fun hHeld => ?_)
              · first | exact HC2.out _ HB.out | exact HC2.out _ HBd.out | exact HC2.out _ HBw.out | exact HC2.out _ (HBw.out.alloc HBw.out.size _) | exact HC2.out _ HB6.out | exact HC2.out _ QB.out
              clear hK K
              try simp only [Act.put, List.setIfInBounds_toArray]
              refine wpAnyH_take (i := 25) (oi := _) (v := ?_) rfl (by kernel_rfl) (by kernel_rfl) (by kernel_rfl) (fun _ _ _ h => h) (Or.inl ⟨by rfl, ?_⟩) (by assumption) ?_
              rotate_left
              · (intro w hSw; (try dsimp only at hSw); first | (go_simp; done) | (go_simp; with_reducible rfl))
              try simp only [Act.put]
              refine wpAnyH_take (i := 26) (oi := _) (v := ?_) rfl (by kernel_rfl) (by kernel_rfl) (by kernel_rfl) (fun _ _ _ h => h) (Or.inl ⟨by rfl, ?_⟩) (by assumption) ?_
              rotate_left
              · (intro w hSw; (try dsimp only at hSw); first | (go_simp; done) | (go_simp; with_reducible rfl))
              try simp only [Act.put]
              refine wpAnyH_ready (rs := [27]) (by kernel_rfl) (by simp) ?_
              refine AllReadyH.cons (o := _) rfl (fun K hK => ?_) ?_
              · go_simp
                refine hK.out _ _ ?_ (fun hHeld => ?_)
                · first | exact HC2.out _ HB.out | exact HC2.out _ HBd.out | exact HC2.out _ HBw.out | exact HC2.out _ (HBw.out.alloc HBw.out.size _) | exact HC2.out _ HB6.out | exact HC2.out _ QB.out
                clear hK K
                try simp only [Act.put, List.setIfInBounds_toArray, List.set_cons_zero, List.set_cons_succ]
                refine wpAnyH_done (by kernel_rfl) ?_ _
                go_wp2
                go_roundw
                case rel => exact ⟨k + 1, _, _, by omega, by go_num, QC, QB.out⟩
                case measure => simp [intOf]; omega
              exact AllReadyH.nil
            exact AllReadyH.nil
          exact AllReadyH.nil
        exact AllReadyH.nil
      refine AllReadyH.cons (o := _) rfl (fun K hK => ?_) ?_
      · go_simp
        go_at_call 39; refine HOwn.out.mono ?_; rintro r w2 ⟨v5, rfl, hv5, hb2⟩; obtain ⟨A5, n5, c5, rfl⟩ : ∃ A n c, v5 = .slice A n c := (by obtain ⟨A, c, e, _⟩ := hv5; exact ⟨A, _, c, e⟩); have hb2' : Below wr.heap.size wr w2 := ((Below.refl wr.heap.size wr).drew).trans hb2; obtain ⟨A4, c4, w6, qrun, qc, qf, qC, qB, qB6⟩ := HMore.out w2 hb2' A5 n5 c5 hv5; have y3 := HY.out _ hb2'; have y4 := HY.out _ (hb2'.alloc hb2'.size (.cells #[.int .i64 kd, .slice A5 n5 c5] 62)); have HBw := Lib.hid (HB.out.trans (hb2'.mono HB.out.size)); have HB6 := Lib.hid qB6; have QC := Lib.hid qC; have QB := Lib.hid qB; clear qC qB qB6 hv5
        refine hK.out _ _ ?_ (fun hHeld => ?_)
        · first | exact HC2.out _ HB.out | exact HC2.out _ HBd.out | exact HC2.out _ HBw.out | exact HC2.out _ (HBw.out.alloc HBw.out.size _) | exact HC2.out _ HB6.out | exact HC2.out _ QB.out
        clear hK K
        try simp only [Act.put, List.setIfInBounds_toArray, List.set_cons_zero, List.set_cons_succ]
        refine wpAnyH_take (i := 22) (oi := _) (v := ?_) rfl (by kernel_rfl) (by kernel_rfl) (by kernel_rfl) (fun _ _ _ h => h) (Or.inl ⟨by rfl, ?_⟩) (by assumption) ?_
        rotate_left
        · (intro w hSw; (try dsimp only at hSw); first | (go_simp; done) | (go_simp; with_reducible rfl))
        try simp only [Act.put, List.setIfInBounds_toArray]
        refine wpAnyH_ready (rs := [4, 23]) (by kernel_rfl) (by simp) ?_
        refine AllReadyH.cons (o := _) rfl (fun K hK => ?_) ?_
        · go_simp
          refine hK.out _ _ ?_ (fun hHeld => ?_)
          · first | exact HC2.out _ HB.out | exact HC2.out _ HBd.out | exact HC2.out _ HBw.out | exact HC2.out _ (HBw.out.alloc HBw.out.size _) | exact HC2.out _ HB6.out | exact HC2.out _ QB.out
          clear hK K
          try simp only [Act.put, List.setIfInBounds_toArray, List.set_cons_zero, List.set_cons_succ]
          refine wpAnyH_ready (rs := [23]) (by kernel_rfl) (by simp) ?_
          refine AllReadyH.cons (o := _) rfl (fun K hK => ?_) ?_
          · go_simp
            refine hK.out _ _ ?_ (fun hHeld => ?_)
            · first | exact HC2.out _ HB.out | exact HC2.out _ HBd.out | exact HC2.out _ HBw.out | exact HC2.out _ (HBw.out.alloc HBw.out.size _) | exact HC2.out _ HB6.out | exact HC2.out _ QB.out
            clear hK K
            try simp only [Act.put, List.setIfInBounds_toArray, List.set_cons_zero, List.set_cons_succ]
            refine wpAnyH_ready (rs := [24]) (by kernel_rfl) (by simp) ?_
            refine AllReadyH.cons (o := _) rfl (fun K hK => ?_) ?_
            · refine step_run rfl (.tmp 28) (.tmp 47) _ rfl _ _ rfl rfl _ _ qrun ?_
              refine hK.out _ _ ?_ (fun hHeld => ?_)
              · first | exact HC2.out _ HB.out | exact HC2.out _ HBd.out | exact HC2.out _ HBw.out | exact HC2.out _ (HBw.out.alloc HBw.out.size _) | exact HC2.out _ HB6.out | exact HC2.out _ QB.out
              clear hK K
              try simp only [Act.put, List.setIfInBounds_toArray]
              refine wpAnyH_take (i := 25) (oi := _) (v := ?_) rfl (by kernel_rfl) (by kernel_rfl) (by kernel_rfl) (fun _ _ _ h => h) (Or.inl ⟨by rfl, ?_⟩) (by assumption) ?_
              rotate_left
              · (intro w hSw; (try dsimp only at hSw); first | (go_simp; done) | (go_simp; with_reducible rfl))
              try simp only [Act.put]
              refine wpAnyH_take (i := 26) (oi := _) (v := ?_) rfl (by kernel_rfl) (by kernel_rfl) (by kernel_rfl) (fun _ _ _ h => h) (Or.inl ⟨by rfl, ?_⟩) (by assumption) ?_
              rotate_left
              · (intro w hSw; (try dsimp only at hSw); first | (go_simp; done) | (go_simp; with_reducible rfl))
              try simp only [Act.put]
              refine wpAnyH_ready (rs := [27]) (by kernel_rfl) (by simp) ?_
              refine AllReadyH.cons (o := _) rfl (fun K hK => ?_) ?_
              · go_simp
                refine hK.out _ _ ?_ (fun hHeld => ?_)
                · first | exact HC2.out _ HB.out | exact HC2.out _ HBd.out | exact HC2.out _ HBw.out | exact HC2.out _ (HBw.out.alloc HBw.out.size _) | exact HC2.out _ HB6.out | exact HC2.out _ QB.out
                clear hK K
                try simp only [Act.put, List.setIfInBounds_toArray, List.set_cons_zero, List.set_cons_succ]
                refine wpAnyH_done (by kernel_rfl) ?_ _
                go_wp2
                go_roundw
                case rel => exact ⟨k + 1, _, _, by omega, by go_num, QC, QB.out⟩
                case measure => simp [intOf]; omega
              exact AllReadyH.nil
            exact AllReadyH.nil
          exact AllReadyH.nil
        refine AllReadyH.cons (o := _) rfl (fun K hK => ?_) ?_
        · go_simp
          refine hK.out _ _ ?_ (fun hHeld => ?_)
          · first | exact HC2.out _ HB.out | exact HC2.out _ HBd.out | exact HC2.out _ HBw.out | exact HC2.out _ (HBw.out.alloc HBw.out.size _) | exact HC2.out _ HB6.out | exact HC2.out _ QB.out
          clear hK K
          try simp only [Act.put, List.setIfInBounds_toArray, List.set_cons_zero, List.set_cons_succ]
          refine wpAnyH_ready (rs := [4]) (by kernel_rfl) (by simp) ?_
          refine AllReadyH.cons (o := _) rfl (fun K hK => ?_) ?_
          · go_simp
            refine hK.out _ _ ?_ (fun hHeld => ?_)
            · first | exact HC2.out _ HB.out | exact HC2.out _ HBd.out | exact HC2.out _ HBw.out | exact HC2.out _ (HBw.out.alloc HBw.out.size _) | exact HC2.out _ HB6.out | exact HC2.out _ QB.out
            clear hK K
            try simp only [Act.put, List.setIfInBounds_toArray, List.set_cons_zero, List.set_cons_succ]
            refine wpAnyH_ready (rs := [24]) (by kernel_rfl) (by simp) ?_
            refine AllReadyH.cons (o := _) rfl (fun K hK => ?_) ?_
            · refine step_run rfl (.tmp 28) (.tmp 47) _ rfl _ _ rfl rfl _ _ qrun ?_
              refine hK.out _ _ ?_ (fun hHeld => ?_)
              · first | exact HC2.out _ HB.out | exact HC2.out _ HBd.out | exact HC2.out _ HBw.out | exact HC2.out _ (HBw.out.alloc HBw.out.size _) | exact HC2.out _ HB6.out | exact HC2.out _ QB.out
              clear hK K
              try simp only [Act.put, List.setIfInBounds_toArray]
              refine wpAnyH_take (i := 25) (oi := _) (v := ?_) rfl (by kernel_rfl) (by kernel_rfl) (by kernel_rfl) (fun _ _ _ h => h) (Or.inl ⟨by rfl, ?_⟩) (by assumption) ?_
              rotate_left
              · (intro w hSw; (try dsimp only at hSw); first | (go_simp; done) | (go_simp; with_reducible rfl))
              try simp only [Act.put]
              refine wpAnyH_take (i := 26) (oi := _) (v := ?_) rfl (by kernel_rfl) (by kernel_rfl) (by kernel_rfl) (fun _ _ _ h => h) (Or.inl ⟨by rfl, ?_⟩) (by assumption) ?_
              rotate_left
              · (intro w hSw; (try dsimp only at hSw); first | (go_simp; done) | (go_simp; with_reducible rfl))
              try simp only [Act.put]
              refine wpAnyH_ready (rs := [27]) (by kernel_rfl) (by simp) ?_
              refine AllReadyH.cons (o := _) rfl (fun K hK => ?_) ?_
              · go_simp
                refine hK.out _ _ ?_ (fun hHeld => ?_)
                · first | exact HC2.out _ HB.out | exact HC2.out _ HBd.out | exact HC2.out _ HBw.out | exact HC2.out _ (HBw.out.alloc HBw.out.size _) | exact HC2.out _ HB6.out | exact HC2.out _ QB.out
                clear hK K
                try simp only [Act.put, List.setIfInBounds_toArray, List.set_cons_zero, List.set_cons_succ]
                refine wpAnyH_done (by kernel_rfl) ?_ _
                go_wp2
                go_roundw
                case rel => exact ⟨k + 1, _, _, by omega, by go_num, QC, QB.out⟩
                case measure => simp [intOf]; omega
              exact AllReadyH.nil
            exact AllReadyH.nil
          exact AllReadyH.nil
        exact AllReadyH.nil
      exact AllReadyH.nil
    · have e : k = es.length := by omega
      subst e
      have hC := HC.out
      rw [List.take_length] at hC
      obtain ⟨U', K', q1, q2, q3⟩ := hC.fin HX.out
      have HQ := Lib.hid (⟨q1, q2, q3⟩ : RSt U' K' wr y M es ∧ (∀ i, U' i → w.heap.size ≤ i) ∧ (∀ i, K' i → w.heap.size ≤ i))
      clear q1 q2 q3 hb hC HC
      go_wp2
      go_ret
      exact ⟨y, U', K', rfl, HQ.out.1, HQ.out.2.1, HQ.out.2.2, HB.out⟩
end
end Go.Proofs.YtbedddgfijpbcaaGreat
