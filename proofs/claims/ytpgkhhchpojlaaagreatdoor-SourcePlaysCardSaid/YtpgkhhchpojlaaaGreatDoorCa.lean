/- The code's stack in memory: a row of frames behind one field. Walks of the code's stack: unmade, Depth, what is asked of a frame. -/
import Derived.Test.YtpgkhhchpojlaaaGreatDoorKz
namespace Go.Proofs.YtpgkhhchpojlaaaGreatDoor
open Go.RowKit Go.Maps Go.WideMaps

def ckC (z : Fv) : List Value := [.int .i64 z.1.kind, .string z.1.name, z.2.1, .int .i64 (z.1.pos : Nat), z.2.2]
def ckCs (zs : List Fv) : List Value := (zs.map ckC).flatten
/-- What waits and is at its end is the topmost frame. -/
def Inv (fs : List Fr) : Prop := ∀ (j : Nat) f, j + 1 < fs.length → fs[j]? = some f → (!(f.is 3 && f.over)) = true
section
variable {K K' : Nat → Prop} {w w' : World} {zs : List Fv} {z : Fv} {k : Nat} {fs : List Fr}
theorem Inv.nil : Inv [] := fun j f hj _ => absurd hj (by simp)
theorem Inv.take (h : Inv fs) (n : Nat) : Inv (fs.take n) := fun j f hj hf => by
  rw [List.length_take] at hj
  rw [List.getElem?_take] at hf
  split at hf
  · exact h j f (by omega) hf
  · cases hf
theorem Inv.push (h : Inv fs) {n : Nat} {f : Fr} (hl : n ≤ fs.length) (hn : 0 < n → ∃ g, fs[n - 1]? = some g ∧ (!(g.is 3 && g.over)) = true) : Inv (fs.take n ++ [f]) := fun j g hj hf => by
  rw [List.length_append, List.length_take, List.length_singleton] at hj
  rw [List.getElem?_append_left (by rw [List.length_take]; omega), List.getElem?_take] at hf
  split at hf
  · by_cases e : j + 1 = n
    · obtain ⟨g', h1, h2⟩ := hn (by omega)
      rw [show n - 1 = j by omega] at h1
      rw [h1] at hf
      injection hf with hf
      subst hf
      exact h2
    · exact h j g (by omega) hf
  · cases hf
theorem Inv.mod (h : Inv fs) {k : Nat} {u : Fr → Fr} (hu : ∀ f, k + 1 < fs.length → (!((u f).is 3 && (u f).over)) = (!(f.is 3 && f.over))) : Inv (fs.modify k u) := fun j g hj hf => by
  rw [List.length_modify] at hj
  rw [List.getElem?_modify] at hf
  cases hx : fs[j]? with
  | none => rw [hx] at hf; cases hf
  | some f =>
    rw [hx] at hf
    injection hf with hf
    subst hf
    by_cases e : k = j
    · subst e
      simp only [if_true]
      rw [hu f hj]
      exact h k f hj hx
    · simp only [e, if_false]
      exact h j f hj hx
theorem ck5 : ∀ c ∈ zs.map ckC, c.length = 5 := fun c hc => by
  obtain ⟨z, _, rfl⟩ := List.mem_map.1 hc
  rfl
theorem ckCs_len : (ckCs zs).length = zs.length * 5 := by unfold ckCs; rw [fl_len ck5, List.length_map]
theorem ckCs_app (a b : List Fv) : ckCs (a ++ b) = ckCs a ++ ckCs b := by unfold ckCs; rw [List.map_append, List.flatten_append]
theorem ckCs_one (z : Fv) : ckCs [z] = ckC z := by unfold ckCs; simp
theorem ckCs_take (k : Nat) : ckCs (zs.take k) = (ckCs zs).take (k * 5) := by unfold ckCs; rw [List.map_take, fl_take k ck5]
theorem ckCs_at (h : zs[k]? = some z) (j : Nat) (hj : j < 5) : (ckCs zs)[k * 5 + j]? = (ckC z)[j]? :=
  flat_at ck5 (by rw [List.getElem?_map, h]; rfl) hj
theorem ckCs_next (hk : k < zs.length) {p : Nat} (h : zs[k]? = some z) (hp : z.1.pos = p) : (ckCs zs).set (k * 5 + 3) (.int .i64 ((p + 1 : Nat) : Int)) = ckCs (zs.modify k (fun z => (z.1.next, z.2))) := by
  unfold ckCs
  rw [fl_set _ ck5 (by omega) (by rw [List.length_map]; exact hk)]
  congr 1
  apply List.ext_getElem?
  intro i
  rw [List.getElem?_modify, List.getElem?_map, List.getElem?_map, List.getElem?_modify]
  by_cases e : k = i
  · subst e
    rw [h]
    simp [ckC, Fr.next, hp]
  · cases zs[i]? <;> simp [e]
theorem ckCs_args (hk : k < zs.length) (v : Value) (n : Nat) : (ckCs zs).set (k * 5 + 4) v = ckCs (zs.modify k (fun z => (z.1.drop n, z.2.1, v))) := by
  unfold ckCs
  rw [fl_set _ ck5 (by omega) (by rw [List.length_map]; exact hk)]
  congr 1
  apply List.ext_getElem?
  intro i
  rw [List.getElem?_modify, List.getElem?_map, List.getElem?_map, List.getElem?_modify]
  by_cases e : k = i
  · subst e
    cases zs[k]? <;> simp [ckC, Fr.drop]
  · cases zs[i]? <;> simp [e]
theorem Holds2.oneC (h : Holds2 K w z) : ∀ u ∈ ckC z, u.oneCell' = true := by
  obtain ⟨A, c, e, _⟩ := h.1
  obtain ⟨A2, c2, e2, _⟩ := h.2
  intro u hu
  simp only [ckC, List.mem_cons, List.not_mem_nil, or_false] at hu
  rcases hu with rfl | rfl | rfl | rfl | rfl
  · rfl
  · rfl
  · rw [e]; rfl
  · rfl
  · rw [e2]; rfl
theorem one_allC (h : ∀ z ∈ zs, Holds2 K w z) : ∀ u ∈ ckCs zs, u.oneCell' = true := by
  intro u hu
  obtain ⟨c, hc, hu⟩ := List.mem_flatten.1 hu
  obtain ⟨z, hz, rfl⟩ := List.mem_map.1 hc
  exact (h z hz).oneC u hu
end
structure CK (U K : Nat → Prop) (w : World) (x : Nat) (zs : List Fv) (r cap : Nat) : Prop where
  blk : Blk w x 49 #[.slice (some ⟨r, 0, none⟩) zs.length cap]
  own : w.ownsRow 0 62 5 (.slice (some ⟨r, 0, none⟩) zs.length cap) zs.length (ckCs zs)
  hold : ∀ z ∈ zs, Holds2 K w z
  ok : AllOk (zs.map (·.1))
  inv : Inv (zs.map (·.1))
  ux : U x
  uv : U r
  uk : ∀ i, U i → ¬ K i
  ul : ∀ i, U i → i < w.heap.size
  kl : ∀ i, K i → i < w.heap.size
/-- The code's stack: its frames, the topmost last. -/
def CKt (U K : Nat → Prop) (w : World) (x : Nat) (fs : List Fr) : Prop := ∃ zs r cap, CK U K w x zs r cap ∧ zs.map (·.1) = fs
section
variable {U K : Nat → Prop} {w w' : World} {x r cap : Nat} {zs : List Fv} {fs : List Fr}
theorem CK.turn {S : Nat → Prop} (h : CK U K w x zs r cap) (hT : Turn S w w') (h1 : ∀ i, U i → ¬ S i) (h2 : ∀ i, K i → ¬ S i) : CK U K w' x zs r cap :=
  ⟨hT.blk h.blk (h1 _ h.ux), own_turn h.own hT (fun g hg => by injection hg with hg; subst hg; exact h1 _ h.uv), fun z hz => (h.hold z hz).stay (Kept.of_turn hT h2) (fun _ h => h), h.ok, h.inv, h.ux, h.uv, h.uk,
   fun i hi => Nat.lt_of_lt_of_le (h.ul i hi) hT.size, fun i hi => Nat.lt_of_lt_of_le (h.kl i hi) hT.size⟩
theorem CK.below (h : CK U K w x zs r cap) (hb : Below w.heap.size w w') : CK U K w' x zs r cap := h.turn (S := fun _ => False) (Turn.of_below hb) (fun _ _ => id) (fun _ _ => id)
theorem CK.len (h : CK U K w x zs r cap) : zs.length ≤ 50 := by have := h.ok.1; rwa [List.length_map] at this
theorem CK.okAt (h : CK U K w x zs r cap) {k : Nat} {z : Fv} (hk : zs[k]? = some z) : z.1.Ok := h.ok.2 _ (List.mem_map.2 ⟨z, List.mem_of_getElem? hk, rfl⟩)
theorem CK.c0 (h : CK U K w x zs r cap) : w.cell? ⟨x, 0, none⟩ = some (.slice (some ⟨r, 0, none⟩) zs.length cap) := h.blk.cell 0
theorem CK.f0 (h : CK U K w x zs r cap) : w.frozen? ⟨x, 0, none⟩ = false := h.blk.frozen 0
theorem CK.cap_ (h : CK U K w x zs r cap) : zs.length ≤ cap ∧ cap ≤ maxLen := by
  rcases h.own.2 with ⟨h', _⟩ | ⟨g', cap', cur, h', _, _, hc, hm, _⟩
  · cases h'
  · injection h' with _ _ e
    subst e
    exact ⟨hc, hm⟩
theorem CK.rblk (h : CK U K w x zs r cap) : ∃ cur, Blk w r 62 cur := by
  rcases h.own.2 with ⟨h', _⟩ | ⟨g', cap', cur, h', _, hg, _⟩
  · cases h'
  · injection h' with h'
    injection h' with h'
    injection h' with h' _
    subst h'
    exact ⟨cur, hg⟩
theorem CK.ne (h : CK U K w x zs r cap) : x ≠ r := by
  obtain ⟨cur, hc⟩ := h.rblk
  exact blk_ne h.blk hc (by decide)
theorem CK.cells {k : Nat} {z : Fv} (h : CK U K w x zs r cap) (hk : zs[k]? = some z) :
    w.cell? ⟨r, k * 5, none⟩ = some (.int .i64 z.1.kind) ∧ w.cell? ⟨r, k * 5 + 1, none⟩ = some (.string z.1.name) ∧ w.cell? ⟨r, k * 5 + 2, none⟩ = some z.2.1 ∧ w.cell? ⟨r, k * 5 + 3, none⟩ = some (.int .i64 (z.1.pos : Nat)) ∧ w.cell? ⟨r, k * 5 + 4, none⟩ = some z.2.2 :=
  ⟨own_cellAt h.own (ckCs_at hk 0 (by omega)), own_cellAt h.own (ckCs_at hk 1 (by omega)), own_cellAt h.own (ckCs_at hk 2 (by omega)), own_cellAt h.own (ckCs_at hk 3 (by omega)), own_cellAt h.own (ckCs_at hk 4 (by omega))⟩
theorem CKt.turn {S : Nat → Prop} (h : CKt U K w x fs) (hT : Turn S w w') (h1 : ∀ i, U i → ¬ S i) (h2 : ∀ i, K i → ¬ S i) : CKt U K w' x fs := by
  obtain ⟨zs, r, cap, h, e⟩ := h
  exact ⟨zs, r, cap, h.turn hT h1 h2, e⟩
theorem CKt.below (h : CKt U K w x fs) (hb : Below w.heap.size w w') : CKt U K w' x fs := h.turn (S := fun _ => False) (Turn.of_below hb) (fun _ _ => id) (fun _ _ => id)
theorem CKt.ok (h : CKt U K w x fs) : AllOk fs := by
  obtain ⟨zs, r, cap, h, rfl⟩ := h
  exact h.ok
theorem CKt.inv (h : CKt U K w x fs) : Inv fs := by
  obtain ⟨zs, r, cap, h, rfl⟩ := h
  exact h.inv
theorem CKt.wideK {K2 : Nat → Prop} (h : CKt U K w x fs) (hK : ∀ i, K i → K2 i) (h1 : ∀ i, U i → ¬ K2 i) (h2 : ∀ i, K2 i → i < w.heap.size) : CKt U K2 w x fs := by
  obtain ⟨zs, r, cap, h, e⟩ := h
  exact ⟨zs, r, cap, ⟨h.blk, h.own, fun z hz => (h.hold z hz).stay (fun _ _ _ => rfl) hK, h.ok, h.inv, h.ux, h.uv, h1, h.ul, h2⟩, e⟩
theorem CKt.sets (h : CKt U K w x fs) : (∀ i, U i → ¬ K i) ∧ (∀ i, U i → i < w.heap.size) ∧ (∀ i, K i → i < w.heap.size) ∧ U x := by
  obtain ⟨zs, r, cap, h, e⟩ := h
  exact ⟨h.uk, h.ul, h.kl, h.ux⟩
/-- With what is new since w besides. -/
theorem CKt.since {w1 : World} (h : CKt U K w x fs) (hb : Below w.heap.size w w1) : CKt U (fun i => K i ∨ w.heap.size ≤ i ∧ i < w1.heap.size) w1 x fs :=
  (h.below hb).wideK (fun i hi => .inl hi) (fun i hu hk => by
    rcases hk with hk | hk
    · exact h.sets.1 i hu hk
    · have := h.sets.2.1 i hu
      omega) (fun i hk => by
    rcases hk with hk | hk
    · exact Nat.lt_of_lt_of_le (h.sets.2.2.1 i hk) hb.size
    · exact hk.2)
/-- What a call leaves of the code's stack. -/
def ZTo (U K : Nat → Prop) (w w' : World) (x : Nat) (fs : List Fr) : Prop :=
  ∃ U' K', CKt U' K' w' x fs ∧ Turn U w w' ∧ (∀ i, U' i → U i ∨ w.heap.size ≤ i) ∧ (∀ i, K' i → K i ∨ w.heap.size ≤ i)
theorem ZTo.same (h : CKt U K w x fs) (hb : Below w.heap.size w w') : ZTo U K w w' x fs := ⟨U, K, h.below hb, Turn.of_below hb, fun _ h => .inl h, fun _ h => .inl h⟩
theorem ZTo.trans {U' K' : Nat → Prop} {w1 : World} {fs' : List Fr} (hT : Turn U w w1) (hU : ∀ i, U' i → U i ∨ w.heap.size ≤ i) (hK : ∀ i, K' i → K i ∨ w.heap.size ≤ i) (h : ZTo U' K' w1 w' x fs') : ZTo U K w w' x fs' := by
  obtain ⟨U2, K2, h1, h2, h3, h4⟩ := h
  have hs := hT.size
  refine ⟨U2, K2, h1, hT.trans h2 (fun i hi hu => ?_), fun i hi => ?_, fun i hi => ?_⟩
  · rcases hU i hu with h | h
    · exact h
    · omega
  · rcases h3 i hi with h | h
    · exact hU i h
    · exact .inr (by omega)
  · rcases h4 i hi with h | h
    · exact hK i h
    · exact .inr (by omega)
theorem ZTo.from_ {w1 : World} (hb : Below w.heap.size w w1) (h : ZTo U K w1 w' x fs) : ZTo U K w w' x fs := ZTo.trans (Turn.of_below hb) (fun _ h => .inl h) (fun _ h => .inl h) h
theorem ZTo.since {w1 : World} (hb : Below w.heap.size w w1) (h : ZTo U (fun i => K i ∨ w.heap.size ≤ i ∧ i < w1.heap.size) w1 w' x fs) : ZTo U K w w' x fs :=
  ZTo.trans (Turn.of_below hb) (fun _ h => .inl h) (fun _ h => h.imp id (fun h => h.1)) h
theorem ZTo.then_ {w1 : World} (h : ZTo U K w w1 x fs) (hb : Below w1.heap.size w1 w') : ZTo U K w w' x fs := by
  obtain ⟨U1, K1, h1, h2, h3, h4⟩ := h
  exact ⟨U1, K1, h1.below hb, h2.trans (Turn.of_below hb : Turn U w1 w') (fun _ _ h => h), h3, h4⟩
/-- A new row of frames, or the row cut or longer, is laid into the field. -/
theorem CK.lay {w4 : World} {r' cap' : Nat} {zs' : List Fv} (h : CK U K w x zs r cap) (hT4 : Turn (fun i => r = i) w w4) (hr : r' = r ∨ w.heap.size ≤ r') (ho : w4.ownsRow 0 62 5 (.slice (some ⟨r', 0, none⟩) zs'.length cap') zs'.length (ckCs zs')) (hz : ∀ z ∈ zs', Holds2 K w4 z) (hok : AllOk (zs'.map (·.1))) (hinv : Inv (zs'.map (·.1))) :
    ZTo U K w (w4.setCell ⟨x, 0, none⟩ (.slice (some ⟨r', 0, none⟩) zs'.length cap')) x (zs'.map (·.1)) := by
  have hT := turn_set w4 x 0 (.slice (some ⟨r', 0, none⟩) zs'.length cap')
  have h4 : Blk w4 x 49 #[.slice (some ⟨r, 0, none⟩) zs.length cap] := hT4.blk h.blk (fun e => h.ne e.symm)
  have hsz := hT4.size
  have hxl := h.ul x h.ux
  have hlt : r' < w4.heap.size := (ho.lt r' rfl).2
  have hxr : r' ≠ x := by
    rcases hr with rfl | hr
    · exact fun e => h.ne e.symm
    · omega
  have hu' : ∀ i, (U i ∨ r' = i) → U i ∨ w.heap.size ≤ i := fun i hi => by
    rcases hi with hi | hi
    · exact .inl hi
    · subst hi
      rcases hr with rfl | hr
      · exact .inl h.uv
      · exact .inr hr
  refine ⟨fun i => U i ∨ r' = i, K, ⟨zs', r', cap', ⟨blk_set h4 _, own_turn ho hT (fun g hg e => by injection hg with hg; subst hg; exact hxr e), fun z hz' => (hz z hz').stay (Kept.of_turn hT (fun i hi e => ?_)) (fun _ h => h), hok, hinv, .inl h.ux, .inr rfl, ?_, ?_, fun i hi => Nat.lt_of_lt_of_le (h.kl i hi) (Nat.le_trans hsz hT.size)⟩, rfl⟩, (hT4.mono (fun i e => by subst e; exact h.uv)).trans hT (fun i _ e => by rw [e]; exact h.ux), hu', fun i hi => .inl hi⟩
  · rw [e] at hi
    exact h.uk x h.ux hi
  · intro i hi hk
    rcases hu' i hi with h5 | h5
    · exact h.uk i h5 hk
    · have := h.kl i hk
      omega
  · rintro i (h5 | h5)
    · exact Nat.lt_of_lt_of_le (h.ul i h5) (Nat.le_trans hsz hT.size)
    · subst h5
      exact Nat.lt_of_lt_of_le hlt hT.size
/-- A cell of a frame is written anew. -/
theorem CK.put {k j : Nat} {u : Value} {zs' : List Fv} (h : CK U K w x zs r cap) (hl : zs'.length = zs.length) (hc : (ckCs zs).set (k * 5 + j) u = ckCs zs') (hz : ∀ z ∈ zs', Holds2 K w z) (hok : AllOk (zs'.map (·.1))) (hinv : Inv (zs'.map (·.1))) :
    ZTo U K w (w.setCell ⟨r, k * 5 + j, none⟩ u) x (zs'.map (·.1)) := by
  have hT := turn_set w r (k * 5 + j) u
  have hst := (h.own.stored (k * 5 + j) u).1
  rw [hc] at hst
  refine ⟨U, K, ⟨zs', r, cap, ⟨by rw [hl]; exact hT.blk h.blk h.ne, by rw [hl]; exact hst, fun z hz' => (hz z hz').stay (Kept.of_turn hT (fun i hi e => ?_)) (fun _ h => h), hok, hinv, h.ux, h.uv, h.uk, fun i hi => Nat.lt_of_lt_of_le (h.ul i hi) hT.size, fun i hi => Nat.lt_of_lt_of_le (h.kl i hi) hT.size⟩, rfl⟩, hT.mono (fun i e => by rw [e]; exact h.uv), fun i hi => .inl hi, fun i hi => .inl hi⟩
  rw [e] at hi
  exact h.uk r h.uv hi
end
theorem cframe_info : (Tryz.prog.info? 62).map (fun i => (i.zero, i.size, i.bytes)) = some (some (.agg #[.int .i64 0, .string ⟨#[]⟩, .slice none 0 0, .int .i64 0, .slice none 0 0]), 5, 80) := by kernel_rfl
/-- Cells behind a row that is owned are written anew. -/
theorem own_behind {b n cap g : Nat} {t : TypeId} {sz : Nat} {xs : List Value} : ∀ (vs : List Value) (o : Nat) (w : World), w.ownsRow b t sz (.slice (some ⟨g, 0, none⟩) n cap) n xs → n * sz ≤ o → (w.setCells g o vs).ownsRow b t sz (.slice (some ⟨g, 0, none⟩) n cap) n xs
  | [], _, _, h, _ => h
  | u :: vs, o, w, h, ho => by
    have h1 := (h.stored o u).1
    rw [List.set_eq_of_length_le (by rw [h.1]; exact ho)] at h1
    exact own_behind vs (o + 1) _ h1 (by omega)
end Go.Proofs.YtpgkhhchpojlaaaGreatDoor
namespace Go.Proofs.YtpgkhhchpojlaaaGreatDoor
open Go.RowKit Go.Maps Go.WideMaps

/-- A frame's cells. -/
structure FrC (W : World) (r o : Nat) (z : Fv) : Prop where
  k : W.cell? ⟨r, o, none⟩ = some (.int .i64 z.1.kind)
  n : W.cell? ⟨r, o + 1, none⟩ = some (.string z.1.name)
  l : W.cell? ⟨r, o + 2, none⟩ = some z.2.1
  p : W.cell? ⟨r, o + 3, none⟩ = some (.int .i64 (z.1.pos : Nat))
  a : W.cell? ⟨r, o + 4, none⟩ = some z.2.2
  ls : ∃ A c, z.2.1 = .slice A z.1.lines.length c
/-- What is asked of a frame, by the number of who asks it. -/
def Asks (k : Nat) (p : Fr → Bool) : Prop := ∀ (W : World) (r o : Nat) (z : Fv), FrC W r o z → Calls Tryz.prog k #[.pointer (some ⟨r, o, none⟩)] W fun e W' => e = .returned (.bool (p z.1)) ∧ Below W.heap.size W W'
theorem FrC.below {W W' : World} {r o : Nat} {z : Fv} (h : FrC W r o z) {n : Nat} (hb : Below n W W') (hn : r < n) : FrC W' r o z := by
  have c : ∀ {o : Nat} {v : Value}, W.cell? ⟨r, o, none⟩ = some v → W'.cell? ⟨r, o, none⟩ = some v := fun hc => (hb.cell (p := ⟨r, _, none⟩) hn).trans hc
  exact ⟨c h.k, c h.n, c h.l, c h.p, c h.a, h.ls⟩
theorem aFile : Asks 57 (Fr.is 1) := fun W r o z h => by
  have hk := h.k
  have e : Fr.is 1 z.1 = (z.1.kind == 1) := rfl
  rw [e]
  clear h e
  go_enter Tryz.func57, Tryz.ntmps57
  go_wp2_with fail
  go_ret
  exact ⟨rfl, Below.refl _ _⟩
theorem aMacro : Asks 55 (Fr.is 2) := fun W r o z h => by
  have hk := h.k
  have e : Fr.is 2 z.1 = (z.1.kind == 2) := rfl
  rw [e]
  clear h e
  go_enter Tryz.func55, Tryz.ntmps55
  go_wp2_with fail
  go_ret
  exact ⟨rfl, Below.refl _ _⟩
theorem aNamed : Asks 66 (fun f => !f.is 3) := fun W r o z h => by
  have hk := h.k
  have e : (fun f => !Fr.is 3 f) z.1 = (z.1.kind != 3) := rfl
  rw [e]
  clear h e
  go_enter Tryz.func66, Tryz.ntmps66
  go_wp2_with fail
  go_ret
  exact ⟨rfl, Below.refl _ _⟩
theorem aUnread : Asks 50 Fr.live := fun W r o z h => by
  have hp := h.p
  have hl := h.l
  obtain ⟨A, c, e1⟩ := h.ls
  rw [e1] at hl
  have e : Fr.live z.1 = decide (z.1.pos < z.1.lines.length) := by
    unfold Fr.live Fr.over
    rw [← decide_not]
    exact decide_eq_decide.2 (by omega)
  rw [e]
  generalize z.1.lines.length = n at *
  generalize z.1.pos = q at *
  clear h e e1
  go_enter Tryz.func50, Tryz.ntmps50
  go_wp2_with fail
  go_quiet (fail)
  go_wp2_with fail
  go_ret
  exact ⟨rfl, below_drewN (Below.refl _ _) _⟩
theorem aStays : Asks 70 (fun f => !(f.is 3 && f.over)) := fun W r o z h => by
  have hk := h.k
  have HU := Lib.hid (aUnread W r o z h)
  show Calls Tryz.prog 70 #[.pointer (some ⟨r, o, none⟩)] W fun e W' => e = .returned (.bool (!(Fr.is 3 z.1 && Fr.over z.1))) ∧ Below W.heap.size W W'
  by_cases e3 : z.1.kind = 3
  · have e : (!(Fr.is 3 z.1 && Fr.over z.1)) = Fr.live z.1 := by
      have : Fr.is 3 z.1 = true := decide_eq_true e3
      rw [this, Bool.true_and]; rfl
    rw [e]
    have hb : (z.1.kind != 3) = false := by simp [e3]
    clear h e e3
    go_enter Tryz.func70, Tryz.ntmps70
    go_wp2_with (go_at_call 50; refine HU.out.mono ?_; rintro e w' ⟨rfl, hb'⟩)
    go_ret
    exact ⟨rfl, hb'⟩
  · have e : (!(Fr.is 3 z.1 && Fr.over z.1)) = true := by
      have : Fr.is 3 z.1 = false := decide_eq_false e3
      rw [this]; rfl
    rw [e]
    have hb : (z.1.kind != 3) = true := by simp [e3]
    clear h e e3 HU
    go_enter Tryz.func70, Tryz.ntmps70
    go_wp2_with fail
    go_ret
    exact ⟨rfl, Below.refl _ _⟩
section
variable {U K : Nat → Prop} {w w' : World} {x r cap : Nat} {zs : List Fv} {fs : List Fr}
theorem CK.frc (h : CK U K w x zs r cap) {k : Nat} {z : Fv} (hk : zs[k]? = some z) : FrC w r (k * 5) z := by
  obtain ⟨c0, c1, c2, c3, c4⟩ := h.cells hk
  obtain ⟨A, c, e, _⟩ := (h.hold z (List.mem_of_getElem? hk)).1
  exact ⟨c0, c1, c2, c3, c4, A, c, e⟩
set_option maxRecDepth 100000 in
theorem cUnmade (A : Addr) (n c : Nat) (h : w.cell? ⟨x, 0, none⟩ = some (.slice (some A) n c)) :
    Calls Tryz.prog 41 #[.pointer (some ⟨x, 0, none⟩)] w fun e w' => e = .returned (.bool false) ∧ w' = w := by
  have heq : ∀ w, (binOp .eql 47 (.slice (some A) n c) (.slice none 0 0)).run Tryz.prog w = .ok (.bool false) w := fun w => Lib.run_eql_slice_nil w _ _ (some A) n c 0 0 Tryz.underlying47
  go_enter Tryz.func41, Tryz.ntmps41
  go_wp2_with fail
  go_ret
  exact ⟨rfl, rfl⟩
set_option maxRecDepth 100000 in
theorem cDepth (A : Addr) (n c : Nat) (h : w.cell? ⟨x, 0, none⟩ = some (.slice (some A) n c)) :
    Calls Tryz.prog 13 #[.pointer (some ⟨x, 0, none⟩)] w fun e w' => e = .returned (.int .i64 (n : Nat)) ∧ w' = w := by
  have HU := Lib.hid (cUnmade A n c h)
  go_enter Tryz.func13, Tryz.ntmps13
  go_wp2_with (go_at_call 41; refine HU.out.mono ?_; rintro e w1 ⟨rfl, rfl⟩)
  go_ret
  exact ⟨rfl, rfl⟩
theorem cValidName (s : ByteArray) (hs : s.size ≤ maxLen) (w : World) :
    Calls Tryz.prog 46 #[.string s] w fun e w' => e = .returned (.bool (nmdB s)) ∧ w' = w := by
  unfold maxLen at hs
  by_cases h0 : s.size = 0
  · obtain rfl : s = ⟨#[]⟩ := by
      apply ByteArray.ext
      exact Array.eq_empty_of_size_eq_zero h0
    have hn : nmdB ⟨#[]⟩ = false := by decide
    rw [hn]
    go_enter Tryz.func46, Tryz.ntmps46
    go_wp2_with fail
    go_ret
    exact ⟨rfl, rfl⟩
  · have hn : nmdB s = decide ((s.size : Int) ≤ 100) := by
      unfold nmdB
      rw [decide_eq_true (show 1 ≤ s.size by omega), Bool.true_and]
      exact decide_eq_decide.2 (by omega)
    rw [hn]; clear hn
    obtain ⟨hl, hl2⟩ := toList_ne h0
    go_enter Tryz.func46, Tryz.ntmps46
    go_wp2_with fail
    go_ret
    exact ⟨rfl, rfl⟩
/-- New. -/
theorem cNewS (w : World) : Calls Tryz.prog 7 #[] w fun e w' => ∃ g, e = .returned (.pointer (some ⟨g, 0, none⟩)) ∧ ∃ U K, CKt U K w' g [] ∧ (∀ i, U i → w.heap.size ≤ i) ∧ (∀ i, K i → w.heap.size ≤ i) ∧ Below w.heap.size w w' := by
  have h1 := World.ownsRow_lit (e := 62) (size := 5) w #[] 0 (Nat.le_refl _) (by unfold maxLen; omega) (by simp)
  have hB1 : Below w.heap.size w (w.alloc (.cells #[] 62)) := (Below.refl _ _).alloc (Nat.le_refl _) _
  have hB2 := hB1.alloc hB1.size (.cells #[.slice (some ⟨w.heap.size, 0, none⟩) 0 0] 49)
  have HG := Lib.hid (show CK (fun i => w.heap.size ≤ i ∧ i < w.heap.size + 2) (fun _ => False) ((w.alloc (.cells #[] 62)).alloc (.cells #[.slice (some ⟨w.heap.size, 0, none⟩) 0 0] 49)) (w.heap.size + 1) [] w.heap.size 0 from
    ⟨by have := Blk.new (w.alloc (.cells #[] 62)) 49 #[.slice (some ⟨w.heap.size, 0, none⟩) 0 0]; rwa [World.size_alloc] at this,
      own_base (h1.alloc _) (Nat.zero_le _), fun z hz => (by cases hz), ⟨Nat.zero_le _, fun f hf => (by cases hf)⟩, Inv.nil, ⟨by omega, by omega⟩, ⟨by omega, by omega⟩, fun _ _ h => h, fun i hi => by simp; omega, fun i hi => hi.elim⟩)
  have HB := Lib.hid hB2
  clear h1 hB1 hB2
  go_enter Tryz.func7, Tryz.ntmps7
  go_wp2_with fail
  go_ret
  exact ⟨_, rfl, _, _, ⟨[], _, _, HG.out, rfl⟩, fun i hi => hi.1, fun i hi => hi.elim, HB.out⟩
end
end Go.Proofs.YtpgkhhchpojlaaaGreatDoor
