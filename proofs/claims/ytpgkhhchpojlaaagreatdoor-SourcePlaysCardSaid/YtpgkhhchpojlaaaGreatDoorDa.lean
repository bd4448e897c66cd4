/- Data that comes in: rows of numbers, texts, boxes, lines, deeds, with what bounds their sizes. -/
import Derived.Test.YtpgkhhchpojlaaaGreatDoorKz
import Derived.Test.YtpgkhhchpojlaaaGreatDoorSa
import Derived.Deep.Slices
namespace Go.Proofs.YtpgkhhchpojlaaaGreatDoor
open Go.ChangeShapes Go.WideShapes Go.ChangeAt Go.RowKit Go.Joins Go.Deep

/-- All weights are within bounds. -/
def Lite {H : Type} (t : TypeId) (d : DataW H) : Prop := (d.weights Tryz.prog t).all (· ≤ reachBytes) = true
section
variable {H : Type} {enc : TypeId × Value → H} {w : World}
theorem lite_mem {e : TypeId} : ∀ {l : List (DataW H)}, (DataW.weightsAll Tryz.prog e l).all (· ≤ reachBytes) = true → ∀ d ∈ l, Lite e d
  | [], _, d, h => by cases h
  | x :: l, ha, d, h => by
    unfold DataW.weightsAll at ha
    rw [List.all_append, Bool.and_eq_true] at ha
    rcases List.mem_cons.1 h with rfl | h
    · exact ha.1
    · exact lite_mem ha.2 d h
theorem lite_each : ∀ {ts : List TypeId} {ds : List (DataW H)}, (DataW.weightsEach Tryz.prog ts ds).all (· ≤ reachBytes) = true → ∀ (i : Nat) t d, ts[i]? = some t → ds[i]? = some d → Lite t d
  | [], _, _, i, t, d, h, _ => by simp at h
  | _ :: _, [], _, i, t, d, _, h => by simp at h
  | t0 :: ts, d0 :: ds, ha, i, t, d, ht, hd => by
    unfold DataW.weightsEach at ha
    rw [List.all_append, Bool.and_eq_true] at ha
    cases i with
    | zero =>
      simp at ht hd
      subst ht hd
      exact ha.1
    | succ i => exact lite_each ha.2 i t d (by simpa using ht) (by simpa using hd)
theorem lite_slice {t e : TypeId} (ht : Tryz.prog.underlying t = some (.slice e)) {l s : List (DataW H)} (h : Lite t (.slice l s)) : (l.length + s.length) * Tryz.prog.bytesOf e ≤ reachBytes ∧ ∀ d ∈ l, Lite e d := by
  unfold Lite DataW.weights at h
  rw [ht] at h
  simp only [List.all_cons, List.all_append, Bool.and_eq_true, decide_eq_true_eq] at h
  exact ⟨h.1, lite_mem h.2.1⟩
theorem lite_struct {t : TypeId} {fs : Array Field} (ht : Tryz.prog.underlying t = some (.struct fs)) {l : List (DataW H)} (h : Lite t (.agg l)) : ∀ (i : Nat) f d, fs[i]? = some f → l[i]? = some d → Lite f.type d := by
  unfold Lite DataW.weights at h
  rw [ht] at h
  intro i f d hf hd
  refine lite_each h i f.type d ?_ hd
  rw [List.getElem?_map, Array.getElem?_toList, hf]
  rfl
theorem lite_string {t : TypeId} {b : List UInt8} (h : Lite t (.lit (.string b) : DataW H)) : b.length ≤ 140737488351232 := by
  unfold Lite DataW.weights at h
  simp only [List.all_cons, List.all_nil, Bool.and_true, decide_eq_true_eq] at h
  exact h
/-- A row, opened. -/
theorem row_of {α : Type} {t e : TypeId} {sz : Nat} (hs0 : 0 < sz) (ht : Tryz.prog.underlying t = some (.slice e)) (hc : Tryz.prog.cellsOf e = sz) {R : World → Nat → Nat → α → Prop} {fuel : Nat} {cs : List Value} {x : DataW H × List MemPlace}
    (h : DataW.trod enc Tryz.prog w 0 (fun _ => true) true fuel t cs = some x) (hl : Lite t x.1)
    (elem : ∀ (n g o : Nat) (cs' : List Value) (y : DataW H × List MemPlace), cs'.length = sz → (∀ j, j < sz → w.cell? ⟨g, o + j, none⟩ = cs'[j]?) → DataW.trod enc Tryz.prog w 0 (fun _ => true) true n e cs' = some y → Lite e y.1 → ∃ a, R w g o a) :
    ∃ v l, cs = [v] ∧ RowAt sz R (fun k => k < w.heap.size) w v l ∧ l.length * Tryz.prog.bytesOf e ≤ reachBytes := by
  rcases Go.Deep.open_slice ht h with ⟨rfl, _⟩ | ⟨a, len, cap, m, n, D, Pl, rfl, _, hlc, hcm, hm, hx, hi⟩
  · exact ⟨_, [], rfl, RowAt.nil, by simp⟩
  · rw [if_pos rfl] at hm
    subst hm
    rw [hx] at hl
    obtain ⟨q1, q2⟩ := lite_slice ht hl
    rw [hc] at hi
    by_cases h0 : len = 0
    · subst h0
      exact ⟨_, [], rfl, ⟨some a, m, rfl, Nat.zero_le _, hcm, fun h => absurd h (Nat.lt_irrefl 0)⟩, by simp⟩
    · have hlit : ∃ g off, a = ⟨g, off, none⟩ ∧ g < w.heap.size := by
        obtain ⟨cs', hcs, _⟩ := hi 0 (by omega)
        obtain ⟨_, hlen, hat⟩ := World.cells?_some hcs
        have h1 := hat 0 hs0
        have h2 : cs'[0]? = some (cs'[0]'(by omega)) := List.getElem?_eq_getElem (by omega)
        obtain ⟨g, off, sp⟩ := a
        cases sp with
        | none =>
          rw [Addr.add_lit, Addr.add_lit, h2] at h1
          exact ⟨g, off, rfl, cell_lt h1⟩
        | some s =>
          exfalso
          rw [h2] at h1
          rw [Nat.zero_mul] at h1
          unfold World.cell? Addr.add at h1
          simp only [if_true] at h1
          split at h1
          · simp at h1
          · cases h1
      obtain ⟨g, off, rfl, hg⟩ := hlit
      have hel : ∀ i, i < len → ∃ a, R w g (off + i * sz) a := fun i hil => by
        obtain ⟨cs', hcs, ht'⟩ := hi i (by omega)
        obtain ⟨_, hlen, hat⟩ := World.cells?_some hcs
        refine elem n g (off + i * sz) cs' _ hlen (fun j hj => ?_) ht' (q2 _ (List.mem_map.2 ⟨i, List.mem_range.2 hil, rfl⟩))
        have := hat j hj
        rwa [Addr.add_lit, Addr.add_lit] at this
      obtain ⟨a0, _⟩ := hel 0 (by omega)
      haveI : Inhabited α := ⟨a0⟩
      obtain ⟨f, hf⟩ := choose_lt hel
      refine ⟨_, (List.range len).map f, rfl, ⟨some ⟨g, off, none⟩, m, by simp, by simpa using hlc, hcm, fun _ => ⟨g, off, rfl, hg, fun i y hy => ?_⟩⟩, ?_⟩
      · have hil : i < len := by
          have := (List.getElem?_eq_some_iff.1 hy).1
          simpa using this
        rw [List.getElem?_map, List.getElem?_range hil] at hy
        simp at hy
        rw [← hy]
        exact hf i hil
      · refine Nat.le_trans ?_ q1
        simp
        exact Nat.mul_le_mul_right _ (by omega)
theorem drop_take1 {cs : List Value} {k : Nat} {v : Value} (h : (cs.drop k).take 1 = [v]) : cs[k]? = some v := by
  have := congrArg (·[0]?) h
  simpa [List.getElem?_take, List.getElem?_drop] using this
theorem str_of {fuel : Nat} {cs : List Value} {x : DataW H × List MemPlace} (h : DataW.trod enc Tryz.prog w 0 (fun _ => true) true fuel 9 cs = some x) (hl : Lite 9 x.1) : ∃ s : ByteArray, cs = [.string s] ∧ s.size ≤ 140737488351232 := by
  obtain ⟨s, rfl, hx, _⟩ := DataW.trod_string Tryz.underlying9 h
  rw [hx] at hl
  exact ⟨s, rfl, lite_string hl⟩
theorem strs_of {fuel : Nat} {cs : List Value} {x : DataW H × List MemPlace} (h : DataW.trod enc Tryz.prog w 0 (fun _ => true) true fuel 36 cs = some x) (hl : Lite 36 x.1) :
    ∃ v l, cs = [v] ∧ SsAt (fun k => k < w.heap.size) w v l ∧ l.length * 16 ≤ 140737488355328 := by
  obtain ⟨v, l, h1, h2, h3⟩ := row_of (sz := 1) (R := strR) (by omega) Tryz.underlying36 (by kernel_rfl) h hl (fun n g o cs' y hlen hc ht hy => by
    obtain ⟨s, rfl, hz⟩ := str_of ht hy
    exact ⟨s, hc 0 (by omega), hz⟩)
  rw [show Tryz.prog.bytesOf 9 = 16 by kernel_rfl] at h3
  exact ⟨v, l, h1, h2, Nat.le_trans h3 (by decide)⟩
theorem nums_of {fuel : Nat} {cs : List Value} {x : DataW H × List MemPlace} (h : DataW.trod enc Tryz.prog w 0 (fun _ => true) true fuel 81 cs = some x) (hl : Lite 81 x.1) :
    ∃ v l, cs = [v] ∧ NsAt (fun k => k < w.heap.size) w v l ∧ l.length * 8 ≤ 140737488355328 := by
  obtain ⟨v, l, h1, h2, h3⟩ := row_of (sz := 1) (R := numR) (by omega) Tryz.underlying81 (by kernel_rfl) h hl (fun n g o cs' y hlen hc ht hy => by
    obtain ⟨m, rfl, _⟩ := DataW.trod_int Tryz.underlying3 ht
    exact ⟨m, hc 0 (by omega)⟩)
  rw [show Tryz.prog.bytesOf 3 = 8 by kernel_rfl] at h3
  exact ⟨v, l, h1, h2, Nat.le_trans h3 (by decide)⟩
theorem c3 : Tryz.prog.cellsOf 3 = 1 := by kernel_rfl
theorem c4 : Tryz.prog.cellsOf 4 = 1 := by kernel_rfl
theorem c9 : Tryz.prog.cellsOf 9 = 1 := by kernel_rfl
theorem cNs : Tryz.prog.cellsOf 81 = 1 := by kernel_rfl
theorem cBs : Tryz.prog.cellsOf 29 = 1 := by kernel_rfl
theorem cSs : Tryz.prog.cellsOf 36 = 1 := by kernel_rfl
theorem cLs : Tryz.prog.cellsOf 35 = 1 := by kernel_rfl
set_option maxRecDepth 100000 in
theorem boxes_of {fuel : Nat} {cs : List Value} {x : DataW H × List MemPlace} (h : DataW.trod enc Tryz.prog w 0 (fun _ => true) true fuel 29 cs = some x) (hl : Lite 29 x.1) :
    ∃ v l, cs = [v] ∧ BxsAt (fun k => k < w.heap.size) w v l ∧ l.length ≤ 1599289640401 := by
  obtain ⟨v, l, h1, h2, h3⟩ := row_of (sz := 7) (R := bxR (fun k => k < w.heap.size)) (by omega) Tryz.underlying29 (by kernel_rfl) h hl (fun n g o cs' y hlen hc ht hy => by
    obtain ⟨xs, n', _, hx, _, hxl, hfd⟩ := DataW.trod_struct Tryz.underlying83 ht
    rw [hx] at hy
    have hli := lite_struct Tryz.underlying83 hy
    match xs, hxl with
    | [x0, x1, x2, x3, x4, x5, x6], _ =>
      have g0 : DataW.trod enc Tryz.prog w 0 (fun _ => true) true n' 3 ((cs'.drop 0).take (Tryz.prog.cellsOf 3)) = some x0 := hfd 0 _ rfl
      have g1 : DataW.trod enc Tryz.prog w 0 (fun _ => true) true n' 3 ((cs'.drop 1).take (Tryz.prog.cellsOf 3)) = some x1 := hfd 1 _ rfl
      have g2 : DataW.trod enc Tryz.prog w 0 (fun _ => true) true n' 3 ((cs'.drop 2).take (Tryz.prog.cellsOf 3)) = some x2 := hfd 2 _ rfl
      have g3 : DataW.trod enc Tryz.prog w 0 (fun _ => true) true n' 3 ((cs'.drop 3).take (Tryz.prog.cellsOf 3)) = some x3 := hfd 3 _ rfl
      have g4 : DataW.trod enc Tryz.prog w 0 (fun _ => true) true n' 9 ((cs'.drop 4).take (Tryz.prog.cellsOf 9)) = some x4 := hfd 4 _ rfl
      have g5 : DataW.trod enc Tryz.prog w 0 (fun _ => true) true n' 9 ((cs'.drop 5).take (Tryz.prog.cellsOf 9)) = some x5 := hfd 5 _ rfl
      have g6 : DataW.trod enc Tryz.prog w 0 (fun _ => true) true n' 81 ((cs'.drop 6).take (Tryz.prog.cellsOf 81)) = some x6 := hfd 6 _ rfl
      rw [c3] at g0 g1 g2 g3
      rw [c9] at g4 g5
      rw [cNs] at g6
      obtain ⟨m0, e0, _⟩ := DataW.trod_int Tryz.underlying3 g0
      obtain ⟨m1, e1, _⟩ := DataW.trod_int Tryz.underlying3 g1
      obtain ⟨m2, e2, _⟩ := DataW.trod_int Tryz.underlying3 g2
      obtain ⟨m3, e3, _⟩ := DataW.trod_int Tryz.underlying3 g3
      obtain ⟨s4, e4, _⟩ := DataW.trod_string Tryz.underlying9 g4
      obtain ⟨s5, e5, _⟩ := DataW.trod_string Tryz.underlying9 g5
      obtain ⟨v6, l6, e6, hn, hz⟩ := nums_of g6 (hli 6 _ x6.1 rfl rfl)
      exact ⟨⟨m0, m1, m2, m3, s4, s5, l6⟩, (hc 0 (by omega)).trans (drop_take1 e0), (hc 1 (by omega)).trans (drop_take1 e1), (hc 2 (by omega)).trans (drop_take1 e2), (hc 3 (by omega)).trans (drop_take1 e3), (hc 4 (by omega)).trans (drop_take1 e4), (hc 5 (by omega)).trans (drop_take1 e5), ⟨v6, (hc 6 (by omega)).trans (drop_take1 e6), hn⟩, hz⟩)
  rw [show Tryz.prog.bytesOf 83 = 88 by kernel_rfl] at h3
  exact ⟨v, l, h1, h2, by unfold reachBytes at h3; omega⟩
set_option maxRecDepth 100000 in
theorem lines_of {fuel : Nat} {cs : List Value} {x : DataW H × List MemPlace} (h : DataW.trod enc Tryz.prog w 0 (fun _ => true) true fuel 35 cs = some x) (hl : Lite 35 x.1) :
    ∃ v l, cs = [v] ∧ LnsAt (fun k => k < w.heap.size) w v l ∧ l.length ≤ 10000000000000 := by
  obtain ⟨v, l, h1, h2, h3⟩ := row_of (sz := 5) (R := lnR (fun k => k < w.heap.size)) (by omega) Tryz.underlying35 (by kernel_rfl) h hl (fun n g o cs' y hlen hc ht hy => by
    obtain ⟨xs, n', _, hx, _, hxl, hfd⟩ := DataW.trod_struct Tryz.underlying31 ht
    rw [hx] at hy
    have hli := lite_struct Tryz.underlying31 hy
    match xs, hxl with
    | [x0, x1, x2, x3, x4], _ =>
      have g0 : DataW.trod enc Tryz.prog w 0 (fun _ => true) true n' 9 ((cs'.drop 0).take (Tryz.prog.cellsOf 9)) = some x0 := hfd 0 _ rfl
      have g1 : DataW.trod enc Tryz.prog w 0 (fun _ => true) true n' 4 ((cs'.drop 1).take (Tryz.prog.cellsOf 4)) = some x1 := hfd 1 _ rfl
      have g2 : DataW.trod enc Tryz.prog w 0 (fun _ => true) true n' 3 ((cs'.drop 2).take (Tryz.prog.cellsOf 3)) = some x2 := hfd 2 _ rfl
      have g3 : DataW.trod enc Tryz.prog w 0 (fun _ => true) true n' 3 ((cs'.drop 3).take (Tryz.prog.cellsOf 3)) = some x3 := hfd 3 _ rfl
      have g4 : DataW.trod enc Tryz.prog w 0 (fun _ => true) true n' 29 ((cs'.drop 4).take (Tryz.prog.cellsOf 29)) = some x4 := hfd 4 _ rfl
      rw [c9] at g0
      rw [c4] at g1
      rw [c3] at g2 g3
      rw [cBs] at g4
      obtain ⟨s0, e0, hz0⟩ := str_of g0 (hli 0 _ x0.1 rfl rfl)
      obtain ⟨b1, e1, _⟩ := DataW.trod_bool Tryz.underlying4 g1
      obtain ⟨m2, e2, _⟩ := DataW.trod_int Tryz.underlying3 g2
      obtain ⟨m3, e3, _⟩ := DataW.trod_int Tryz.underlying3 g3
      obtain ⟨v4, l4, e4, hn, hz⟩ := boxes_of g4 (hli 4 _ x4.1 rfl rfl)
      exact ⟨⟨s0, b1, m2, m3, l4⟩, (hc 0 (by omega)).trans (drop_take1 e0), (hc 1 (by omega)).trans (drop_take1 e1), (hc 2 (by omega)).trans (drop_take1 e2), (hc 3 (by omega)).trans (drop_take1 e3), ⟨v4, (hc 4 (by omega)).trans (drop_take1 e4), hn⟩, hz0, hz⟩)
  rw [show Tryz.prog.bytesOf 31 = 64 by kernel_rfl] at h3
  exact ⟨v, l, h1, h2, by unfold reachBytes at h3; omega⟩
end
/-- A deed. -/
structure Dd where
  what : Int
  name : ByteArray
  text : ByteArray
  lines : List Ln
  args : List ByteArray
  n : Int
structure ddR (K : Nat → Prop) (w : World) (g o : Nat) (d : Dd) : Prop where
  c0 : w.cell? ⟨g, o, none⟩ = some (.int .i64 d.what)
  c1 : w.cell? ⟨g, o + 1, none⟩ = some (.string d.name)
  c2 : w.cell? ⟨g, o + 2, none⟩ = some (.string d.text)
  c3 : ∃ v, w.cell? ⟨g, o + 3, none⟩ = some v ∧ LnsAt K w v d.lines
  c4 : ∃ v, w.cell? ⟨g, o + 4, none⟩ = some v ∧ SsAt K w v d.args
  c5 : w.cell? ⟨g, o + 5, none⟩ = some (.int .i64 d.n)
  z1 : d.name.size ≤ 140737488351232
  z2 : d.text.size ≤ 140737488351232
  z3 : d.lines.length ≤ 10000000000000
  z4 : d.args.length * 16 ≤ 140737488355328
  wn : -9223372036854775808 ≤ d.n ∧ d.n ≤ 9223372036854775807
  ww : -9223372036854775808 ≤ d.what ∧ d.what ≤ 9223372036854775807
theorem ddR.keep {K K' : Nat → Prop} {w w' : World} {g o : Nat} {d : Dd} (ha : K g) (h : ddR K w g o d) (hw : Kept K w w') (hK : ∀ i, K i → K' i) : ddR K' w' g o d := by
  obtain ⟨v, hv, hn⟩ := h.c3
  obtain ⟨v2, hv2, hn2⟩ := h.c4
  exact ⟨hw.cell ha h.c0, hw.cell ha h.c1, hw.cell ha h.c2, ⟨v, hw.cell ha hv, hn.stay hw hK⟩, ⟨v2, hw.cell ha hv2, hn2.stay hw hK⟩, hw.cell ha h.c5, h.z1, h.z2, h.z3, h.z4, h.wn, h.ww⟩
abbrev DdsAt (K : Nat → Prop) := RowAt 6 (ddR K) K
section
variable {H : Type} {enc : TypeId × Value → H} {w : World}
set_option maxRecDepth 100000 in
/-- A deed's cells. -/
theorem deed_of {n g o : Nat} {cs' : List Value} {y : DataW H × List MemPlace} (hc : ∀ j, j < 6 → w.cell? ⟨g, o + j, none⟩ = cs'[j]?) (ht : DataW.trod enc Tryz.prog w 0 (fun _ => true) true n 38 cs' = some y) (hy : Lite 38 y.1) :
    ∃ d, ddR (fun k => k < w.heap.size) w g o d := by
  obtain ⟨xs, n', _, hx, _, hxl, hfd⟩ := DataW.trod_struct Tryz.underlying38 ht
  rw [hx] at hy
  have hli := lite_struct Tryz.underlying38 hy
  match xs, hxl with
  | [x0, x1, x2, x3, x4, x5], _ =>
    have g0 : DataW.trod enc Tryz.prog w 0 (fun _ => true) true n' 3 ((cs'.drop 0).take (Tryz.prog.cellsOf 3)) = some x0 := hfd 0 _ rfl
    have g1 : DataW.trod enc Tryz.prog w 0 (fun _ => true) true n' 9 ((cs'.drop 1).take (Tryz.prog.cellsOf 9)) = some x1 := hfd 1 _ rfl
    have g2 : DataW.trod enc Tryz.prog w 0 (fun _ => true) true n' 9 ((cs'.drop 2).take (Tryz.prog.cellsOf 9)) = some x2 := hfd 2 _ rfl
    have g3 : DataW.trod enc Tryz.prog w 0 (fun _ => true) true n' 35 ((cs'.drop 3).take (Tryz.prog.cellsOf 35)) = some x3 := hfd 3 _ rfl
    have g4 : DataW.trod enc Tryz.prog w 0 (fun _ => true) true n' 36 ((cs'.drop 4).take (Tryz.prog.cellsOf 36)) = some x4 := hfd 4 _ rfl
    have g5 : DataW.trod enc Tryz.prog w 0 (fun _ => true) true n' 3 ((cs'.drop 5).take (Tryz.prog.cellsOf 3)) = some x5 := hfd 5 _ rfl
    rw [c3] at g0 g5
    rw [c9] at g1 g2
    rw [cLs] at g3
    rw [cSs] at g4
    obtain ⟨m0, e0, _, w0⟩ := DataW.trod_int Tryz.underlying3 g0
    obtain ⟨s1, e1, hz1⟩ := str_of g1 (hli 1 _ x1.1 rfl rfl)
    obtain ⟨s2, e2, hz2⟩ := str_of g2 (hli 2 _ x2.1 rfl rfl)
    obtain ⟨v3, l3, e3, hn3, hz3⟩ := lines_of g3 (hli 3 _ x3.1 rfl rfl)
    obtain ⟨v4, l4, e4, hn4, hz4⟩ := strs_of g4 (hli 4 _ x4.1 rfl rfl)
    obtain ⟨m5, e5, _, w5⟩ := DataW.trod_int Tryz.underlying3 g5
    exact ⟨⟨m0, s1, s2, l3, l4, m5⟩, (hc 0 (by omega)).trans (drop_take1 e0), (hc 1 (by omega)).trans (drop_take1 e1), (hc 2 (by omega)).trans (drop_take1 e2), ⟨v3, (hc 3 (by omega)).trans (drop_take1 e3), hn3⟩, ⟨v4, (hc 4 (by omega)).trans (drop_take1 e4), hn4⟩, (hc 5 (by omega)).trans (drop_take1 e5), hz1, hz2, hz3, hz4, wf_i64 w5, wf_i64 w0⟩
set_option maxRecDepth 100000 in
theorem deeds_of {fuel : Nat} {cs : List Value} {x : DataW H × List MemPlace} (h : DataW.trod enc Tryz.prog w 0 (fun _ => true) true fuel 22 cs = some x) (hl : Lite 22 x.1) :
    ∃ v l, cs = [v] ∧ DdsAt (fun k => k < w.heap.size) w v l ∧ l.length ≤ 10000000000000 := by
  obtain ⟨v, l, h1, h2, h3⟩ := row_of (sz := 6) (R := ddR (fun k => k < w.heap.size)) (by omega) Tryz.underlying22 (by kernel_rfl) h hl (fun n g o cs' y hlen hc ht hy => deed_of hc ht hy)
  rw [show Tryz.prog.bytesOf 38 = 96 by kernel_rfl] at h3
  exact ⟨v, l, h1, h2, by unfold reachBytes at h3; omega⟩
set_option maxRecDepth 100000 in
theorem strs_in {r : Reach} {b0 : Nat} {v : Value} {d : DataW H} {p : List MemPlace} (hv : Value.okWide Tryz.prog w r b0 36 v) (h : DataW.Trod enc Tryz.prog w 0 (fun _ => true) true 36 v d p) (hl : Lite 36 d) : ∃ l, SsAt (fun k => k < w.heap.size) w v l ∧ l.length * 16 ≤ 140737488355328 := by
  obtain ⟨a, len, cap, rfl⟩ := okWide_slice Tryz.underlying36 hv
  obtain ⟨fuel, hf⟩ := h
  obtain ⟨v', l, e, hr⟩ := strs_of hf hl
  injection e with e _
  rw [← e] at hr
  exact ⟨l, hr⟩
set_option maxRecDepth 100000 in
theorem lines_in {r : Reach} {b0 : Nat} {v : Value} {d : DataW H} {p : List MemPlace} (hv : Value.okWide Tryz.prog w r b0 35 v) (h : DataW.Trod enc Tryz.prog w 0 (fun _ => true) true 35 v d p) (hl : Lite 35 d) : ∃ l, LnsAt (fun k => k < w.heap.size) w v l ∧ l.length ≤ 10000000000000 := by
  obtain ⟨a, len, cap, rfl⟩ := okWide_slice Tryz.underlying35 hv
  obtain ⟨fuel, hf⟩ := h
  obtain ⟨v', l, e, hr⟩ := lines_of hf hl
  injection e with e _
  rw [← e] at hr
  exact ⟨l, hr⟩
set_option maxRecDepth 100000 in
theorem deeds_in {r : Reach} {b0 : Nat} {v : Value} {d : DataW H} {p : List MemPlace} (hv : Value.okWide Tryz.prog w r b0 22 v) (h : DataW.Trod enc Tryz.prog w 0 (fun _ => true) true 22 v d p) (hl : Lite 22 d) : ∃ l, DdsAt (fun k => k < w.heap.size) w v l ∧ l.length ≤ 10000000000000 := by
  obtain ⟨a, len, cap, rfl⟩ := okWide_slice Tryz.underlying22 hv
  obtain ⟨fuel, hf⟩ := h
  obtain ⟨v', l, e, hr⟩ := deeds_of hf hl
  injection e with e _
  rw [← e] at hr
  exact ⟨l, hr⟩
end
end Go.Proofs.YtpgkhhchpojlaaaGreatDoor
