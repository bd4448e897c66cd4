/- Rows of texts and of bytes that come in, with what bounds their sizes. -/
import Derived.Test.YtfcbpehgkpmniaaDoorSa
import Derived.Deep.Slices
namespace Go.Proofs.YtfcbpehgkpmniaaDoor
open Go.ChangeShapes Go.WideShapes Go.ChangeAt Go.RowKit Go.Joins Go.Deep

/-- A byte in memory. -/
def byR (w : World) (g o : Nat) (c : UInt8) : Prop := w.cell? ⟨g, o, none⟩ = some (.int .u8 (c.toNat : Int))
abbrev BysAt (K : Nat → Prop) := RowAt 1 byR K
theorem bys_stay {K : Nat → Prop} {w w' : World} {v : Value} {l : List UInt8} (h : BysAt K w v l) (hw : Kept K w w') : BysAt K w' v l := RowAt.imp h (fun _ h => h) (fun _ _ _ _ ha hr => hw.cell ha hr)
theorem wf_byte {n : Int} (h : (Lit.int .u8 n).wf = true) : ∃ c : UInt8, n = (c.toNat : Int) := by
  have h2 : 0 ≤ n ∧ n ≤ 255 := by
    simp [Lit.wf, IntKind.min, IntKind.max, IntKind.bits, IntKind.signed] at h
    omega
  refine ⟨UInt8.ofNat n.toNat, ?_⟩
  rw [UInt8.toNat_ofNat_of_lt' (by show n.toNat < 256; omega)]
  omega
/-- All weights are within bounds. -/
def Lite {H : Type} (t : TypeId) (d : DataW H) : Prop := (d.weights Tryd.prog t).all (· ≤ reachBytes) = true
section
variable {H : Type} {enc : TypeId × Value → H} {w : World}
theorem lite_mem {e : TypeId} : ∀ {l : List (DataW H)}, (DataW.weightsAll Tryd.prog e l).all (· ≤ reachBytes) = true → ∀ d ∈ l, Lite e d
  | [], _, d, h => by cases h
  | x :: l, ha, d, h => by
    unfold DataW.weightsAll at ha
    rw [List.all_append, Bool.and_eq_true] at ha
    rcases List.mem_cons.1 h with rfl | h
    · exact ha.1
    · exact lite_mem ha.2 d h
theorem lite_each : ∀ {ts : List TypeId} {ds : List (DataW H)}, (DataW.weightsEach Tryd.prog ts ds).all (· ≤ reachBytes) = true → ∀ (i : Nat) t d, ts[i]? = some t → ds[i]? = some d → Lite t d
  | [], _, _, i, t, d, h, _ => by simp at h
  | _ :: _, [], _, i, t, d, _, h => by simp at h
  | t0 :: ts, d0 :: ds, ha, i, t, d, ht, hd => by
    unfold DataW.weightsEach at ha
    rw [List.all_append, Bool.and_eq_true] at ha
    cases i with
    | zero =>
      simp at ht hd
      subst ht hd
      exact ha.1
    | succ i => exact lite_each ha.2 i t d (by simpa using ht) (by simpa using hd)
theorem lite_slice {t e : TypeId} (ht : Tryd.prog.underlying t = some (.slice e)) {l s : List (DataW H)} (h : Lite t (.slice l s)) : (l.length + s.length) * Tryd.prog.bytesOf e ≤ reachBytes ∧ ∀ d ∈ l, Lite e d := by
  unfold Lite DataW.weights at h
  rw [ht] at h
  simp only [List.all_cons, List.all_append, Bool.and_eq_true, decide_eq_true_eq] at h
  exact ⟨h.1, lite_mem h.2.1⟩
theorem lite_string {t : TypeId} {b : List UInt8} (h : Lite t (.lit (.string b) : DataW H)) : b.length ≤ 140737488351232 := by
  unfold Lite DataW.weights at h
  simp only [List.all_cons, List.all_nil, Bool.and_true, decide_eq_true_eq] at h
  exact h
/-- A row, opened. -/
theorem row_of {α : Type} {t e : TypeId} {sz : Nat} (hs0 : 0 < sz) (ht : Tryd.prog.underlying t = some (.slice e)) (hc : Tryd.prog.cellsOf e = sz) {R : World → Nat → Nat → α → Prop} {fuel : Nat} {cs : List Value} {x : DataW H × List MemPlace}
    (h : DataW.trod enc Tryd.prog w 0 (fun _ => true) true fuel t cs = some x) (hl : Lite t x.1)
    (elem : ∀ (n g o : Nat) (cs' : List Value) (y : DataW H × List MemPlace), cs'.length = sz → (∀ j, j < sz → w.cell? ⟨g, o + j, none⟩ = cs'[j]?) → DataW.trod enc Tryd.prog w 0 (fun _ => true) true n e cs' = some y → Lite e y.1 → ∃ a, R w g o a) :
    ∃ v l, cs = [v] ∧ RowAt sz R (fun k => k < w.heap.size) w v l ∧ l.length * Tryd.prog.bytesOf e ≤ reachBytes := by
  rcases Go.Deep.open_slice ht h with ⟨rfl, _⟩ | ⟨a, len, cap, m, n, D, Pl, rfl, _, hlc, hcm, hm, hx, hi⟩
  · exact ⟨_, [], rfl, RowAt.nil, by simp⟩
  · rw [if_pos rfl] at hm
    subst hm
    rw [hx] at hl
    obtain ⟨q1, q2⟩ := lite_slice ht hl
    rw [hc] at hi
    by_cases h0 : len = 0
    · subst h0
      exact ⟨_, [], rfl, ⟨some a, m, rfl, Nat.zero_le _, hcm, fun h => absurd h (Nat.lt_irrefl 0)⟩, by simp⟩
    · have hlit : ∃ g off, a = ⟨g, off, none⟩ ∧ g < w.heap.size := by
        obtain ⟨cs', hcs, _⟩ := hi 0 (by omega)
        obtain ⟨_, hlen, hat⟩ := World.cells?_some hcs
        have h1 := hat 0 hs0
        have h2 : cs'[0]? = some (cs'[0]'(by omega)) := List.getElem?_eq_getElem (by omega)
        obtain ⟨g, off, sp⟩ := a
        cases sp with
        | none =>
          rw [Addr.add_lit, Addr.add_lit, h2] at h1
          exact ⟨g, off, rfl, cell_lt h1⟩
        | some s =>
          exfalso
          rw [h2] at h1
          rw [Nat.zero_mul] at h1
          unfold World.cell? Addr.add at h1
          simp only [if_true] at h1
          split at h1
          · simp at h1
          · cases h1
      obtain ⟨g, off, rfl, hg⟩ := hlit
      have hel : ∀ i, i < len → ∃ a, R w g (off + i * sz) a := fun i hil => by
        obtain ⟨cs', hcs, ht'⟩ := hi i (by omega)
        obtain ⟨_, hlen, hat⟩ := World.cells?_some hcs
        refine elem n g (off + i * sz) cs' _ hlen (fun j hj => ?_) ht' (q2 _ (List.mem_map.2 ⟨i, List.mem_range.2 hil, rfl⟩))
        have := hat j hj
        rwa [Addr.add_lit, Addr.add_lit] at this
      obtain ⟨a0, _⟩ := hel 0 (by omega)
      haveI : Inhabited α := ⟨a0⟩
      obtain ⟨f, hf⟩ := choose_lt hel
      refine ⟨_, (List.range len).map f, rfl, ⟨some ⟨g, off, none⟩, m, by simp, by simpa using hlc, hcm, fun _ => ⟨g, off, rfl, hg, fun i y hy => ?_⟩⟩, ?_⟩
      · have hil : i < len := by
          have := (List.getElem?_eq_some_iff.1 hy).1
          simpa using this
        rw [List.getElem?_map, List.getElem?_range hil] at hy
        simp at hy
        rw [← hy]
        exact hf i hil
      · refine Nat.le_trans ?_ q1
        simp
        exact Nat.mul_le_mul_right _ (by omega)
theorem str_of {fuel : Nat} {cs : List Value} {x : DataW H × List MemPlace} (h : DataW.trod enc Tryd.prog w 0 (fun _ => true) true fuel 9 cs = some x) (hl : Lite 9 x.1) : ∃ s : ByteArray, cs = [.string s] ∧ s.size ≤ 140737488351232 := by
  obtain ⟨s, rfl, hx, _⟩ := DataW.trod_string Tryd.underlying9 h
  rw [hx] at hl
  exact ⟨s, rfl, lite_string hl⟩
theorem strs_of {fuel : Nat} {cs : List Value} {x : DataW H × List MemPlace} (h : DataW.trod enc Tryd.prog w 0 (fun _ => true) true fuel 25 cs = some x) (hl : Lite 25 x.1) :
    ∃ v l, cs = [v] ∧ RowAt 1 strR (fun k => k < w.heap.size) w v l := by
  obtain ⟨v, l, h1, h2, _⟩ := row_of (sz := 1) (R := strR) (by omega) Tryd.underlying25 (by kernel_rfl) h hl (fun n g o cs' y hlen hc ht hy => by
    obtain ⟨s, rfl, hz⟩ := str_of ht hy
    exact ⟨s, hc 0 (by omega), hz⟩)
  exact ⟨v, l, h1, h2⟩
set_option maxRecDepth 100000 in
theorem strs_in {r : Reach} {b0 : Nat} {v : Value} {d : DataW H} {p : List MemPlace} (hv : Value.okWide Tryd.prog w r b0 25 v) (h : DataW.Trod enc Tryd.prog w 0 (fun _ => true) true 25 v d p) (hl : Lite 25 d) : ∃ l, RowAt 1 strR (fun k => k < w.heap.size) w v l := by
  obtain ⟨a, len, cap, rfl⟩ := okWide_slice Tryd.underlying25 hv
  obtain ⟨fuel, hf⟩ := h
  obtain ⟨v', l, e, hr⟩ := strs_of hf hl
  injection e with e _
  rw [← e] at hr
  exact ⟨l, hr⟩
set_option maxRecDepth 100000 in
theorem bys_in {r : Reach} {b0 : Nat} {v : Value} {d : DataW H} {p : List MemPlace} (hv : Value.okWide Tryd.prog w r b0 27 v) (h : DataW.Trod enc Tryd.prog w 0 (fun _ => true) true 27 v d p) (hl : Lite 27 d) : ∃ l, BysAt (fun k => k < w.heap.size) w v l := by
  obtain ⟨a, len, cap, rfl⟩ := okWide_slice Tryd.underlying27 hv
  obtain ⟨fuel, hf⟩ := h
  obtain ⟨v', l, e, hr, _⟩ := row_of (sz := 1) (R := byR) (by omega) Tryd.underlying27 (by kernel_rfl) hf hl (fun n g o cs' y hlen hc ht hy => by
    obtain ⟨m, rfl, _, wm⟩ := DataW.trod_int Tryd.underlying5 ht
    obtain ⟨c, rfl⟩ := wf_byte wm
    exact ⟨c, hc 0 (by omega)⟩)
  injection e with e _
  rw [← e] at hr
  exact ⟨l, hr⟩
end
end Go.Proofs.YtfcbpehgkpmniaaDoor
