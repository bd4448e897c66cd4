/- The document's stack in memory: a row of frames. Walks of the document's stack: no, over, named, top, Name, Line, Depth, New. The lines of a text; walks: the document's Lines and read. -/
import Derived.Test.YtpgkhhchpojlaaaGreatDoorKz
namespace Go.Proofs.YtpgkhhchpojlaaaGreatDoor
open Go.RowKit Go.Maps Go.WideMaps

section
variable {sz : Nat} {css : List (List Value)}
end
section
variable {K K' : Nat → Prop} {w w' : World} {zs : List Fv} {z : Fv} {k : Nat}
end
structure RK (U K : Nat → Prop) (w : World) (x : Nat) (zs : List Fv) (v : Value) : Prop where
  blk : Blk w x 52 #[.bool true, v]
  own : w.ownsRow 0 64 5 v zs.length (rkCs zs)
  hold : ∀ z ∈ zs, Holds2 K w z
  ok : AllOk (zs.map (·.1))
  ux : U x
  uv : ∀ g, v.ownBlock = some g → U g
  uk : ∀ i, U i → ¬ K i
  ul : ∀ i, U i → i < w.heap.size
  kl : ∀ i, K i → i < w.heap.size
/-- The document's stack: its frames, the topmost last. -/
def RKt (U K : Nat → Prop) (w : World) (x : Nat) (fs : List Fr) : Prop := ∃ zs v, RK U K w x zs v ∧ zs.map (·.1) = fs
/-- What a call leaves of the document's stack. -/
def KTo (U K : Nat → Prop) (w w' : World) (x : Nat) (fs : List Fr) : Prop :=
  ∃ U' K', RKt U' K' w' x fs ∧ Turn U w w' ∧ (∀ i, U' i → U i ∨ w.heap.size ≤ i) ∧ (∀ i, K' i → K i ∨ w.heap.size ≤ i)
section
variable {U K : Nat → Prop} {w w' : World} {x : Nat} {zs : List Fv} {v : Value} {fs : List Fr}
theorem RK.turn {S : Nat → Prop} (h : RK U K w x zs v) (hT : Turn S w w') (h1 : ∀ i, U i → ¬ S i) (h2 : ∀ i, K i → ¬ S i) : RK U K w' x zs v :=
  ⟨hT.blk h.blk (h1 _ h.ux), own_turn h.own hT (fun g hg => h1 _ (h.uv g hg)), fun z hz => (h.hold z hz).stay (Kept.of_turn hT h2) (fun _ h => h), h.ok, h.ux, h.uv, h.uk,
   fun i hi => Nat.lt_of_lt_of_le (h.ul i hi) hT.size, fun i hi => Nat.lt_of_lt_of_le (h.kl i hi) hT.size⟩
theorem RK.below (h : RK U K w x zs v) (hb : Below w.heap.size w w') : RK U K w' x zs v := h.turn (S := fun _ => False) (Turn.of_below hb) (fun _ _ => id) (fun _ _ => id)
theorem RK.len (h : RK U K w x zs v) : zs.length ≤ 50 := by have := h.ok.1; rwa [List.length_map] at this
theorem RK.okAt (h : RK U K w x zs v) {k : Nat} {z : Fv} (hk : zs[k]? = some z) : z.1.Ok := h.ok.2 _ (List.mem_map.2 ⟨z, List.mem_of_getElem? hk, rfl⟩)
theorem RK.c0 (h : RK U K w x zs v) : w.cell? ⟨x, 0, none⟩ = some (.bool true) := h.blk.cell 0
theorem RK.c1 (h : RK U K w x zs v) : w.cell? ⟨x, 1, none⟩ = some v := h.blk.cell 1
theorem RK.f1 (h : RK U K w x zs v) : w.frozen? ⟨x, 1, none⟩ = false := h.blk.frozen 1
theorem RK.cells {g cap k : Nat} {z : Fv} (h : RK U K w x zs (.slice (some ⟨g, 0, none⟩) zs.length cap)) (hk : zs[k]? = some z) :
    w.cell? ⟨g, k * 5, none⟩ = some (.int .i64 z.1.kind) ∧ w.cell? ⟨g, k * 5 + 1, none⟩ = some (.string z.1.name) ∧ w.cell? ⟨g, k * 5 + 2, none⟩ = some z.2.1 ∧ w.cell? ⟨g, k * 5 + 3, none⟩ = some z.2.2 ∧ w.cell? ⟨g, k * 5 + 4, none⟩ = some (.int .i64 (z.1.pos : Nat)) :=
  ⟨own_cellAt h.own (rkCs_at hk 0 (by omega)), own_cellAt h.own (rkCs_at hk 1 (by omega)), own_cellAt h.own (rkCs_at hk 2 (by omega)), own_cellAt h.own (rkCs_at hk 3 (by omega)), own_cellAt h.own (rkCs_at hk 4 (by omega))⟩
theorem RKt.turn {S : Nat → Prop} (h : RKt U K w x fs) (hT : Turn S w w') (h1 : ∀ i, U i → ¬ S i) (h2 : ∀ i, K i → ¬ S i) : RKt U K w' x fs := by
  obtain ⟨zs, v, h, e⟩ := h
  exact ⟨zs, v, h.turn hT h1 h2, e⟩
theorem RKt.below (h : RKt U K w x fs) (hb : Below w.heap.size w w') : RKt U K w' x fs := h.turn (S := fun _ => False) (Turn.of_below hb) (fun _ _ => id) (fun _ _ => id)
theorem RKt.ok (h : RKt U K w x fs) : AllOk fs := by
  obtain ⟨zs, v, h, rfl⟩ := h
  exact h.ok
theorem RKt.wideK {K2 : Nat → Prop} (h : RKt U K w x fs) (hK : ∀ i, K i → K2 i) (h1 : ∀ i, U i → ¬ K2 i) (h2 : ∀ i, K2 i → i < w.heap.size) : RKt U K2 w x fs := by
  obtain ⟨zs, v, h, e⟩ := h
  exact ⟨zs, v, ⟨h.blk, h.own, fun z hz => (h.hold z hz).stay (fun _ _ _ => rfl) hK, h.ok, h.ux, h.uv, h1, h.ul, h2⟩, e⟩
theorem RKt.sets (h : RKt U K w x fs) : (∀ i, U i → ¬ K i) ∧ (∀ i, U i → i < w.heap.size) ∧ (∀ i, K i → i < w.heap.size) ∧ U x := by
  obtain ⟨zs, v, h, e⟩ := h
  exact ⟨h.uk, h.ul, h.kl, h.ux⟩
/-- With what is new since w besides. -/
theorem RKt.since {w1 : World} (h : RKt U K w x fs) (hb : Below w.heap.size w w1) : RKt U (fun i => K i ∨ w.heap.size ≤ i ∧ i < w1.heap.size) w1 x fs :=
  (h.below hb).wideK (fun i hi => .inl hi) (fun i hu hk => by
    rcases hk with hk | hk
    · exact h.sets.1 i hu hk
    · have := h.sets.2.1 i hu
      omega) (fun i hk => by
    rcases hk with hk | hk
    · exact Nat.lt_of_lt_of_le (h.sets.2.2.1 i hk) hb.size
    · exact hk.2)
theorem KTo.same (h : RKt U K w x fs) (hb : Below w.heap.size w w') : KTo U K w w' x fs := ⟨U, K, h.below hb, Turn.of_below hb, fun _ h => .inl h, fun _ h => .inl h⟩
theorem KTo.trans {U' K' : Nat → Prop} {w1 : World} {fs' : List Fr} (hT : Turn U w w1) (hU : ∀ i, U' i → U i ∨ w.heap.size ≤ i) (hK : ∀ i, K' i → K i ∨ w.heap.size ≤ i) (h : KTo U' K' w1 w' x fs') : KTo U K w w' x fs' := by
  obtain ⟨U2, K2, h1, h2, h3, h4⟩ := h
  have hs := hT.size
  refine ⟨U2, K2, h1, hT.trans h2 (fun i hi hu => ?_), fun i hi => ?_, fun i hi => ?_⟩
  · rcases hU i hu with h | h
    · exact h
    · omega
  · rcases h3 i hi with h | h
    · exact hU i h
    · exact .inr (by omega)
  · rcases h4 i hi with h | h
    · exact hK i h
    · exact .inr (by omega)
theorem KTo.from_ {w1 : World} (hb : Below w.heap.size w w1) (h : KTo U K w1 w' x fs) : KTo U K w w' x fs := KTo.trans (Turn.of_below hb) (fun _ h => .inl h) (fun _ h => .inl h) h
theorem KTo.since {w1 : World} (hb : Below w.heap.size w w1) (h : KTo U (fun i => K i ∨ w.heap.size ≤ i ∧ i < w1.heap.size) w1 w' x fs) : KTo U K w w' x fs :=
  KTo.trans (Turn.of_below hb) (fun _ h => .inl h) (fun _ h => h.imp id (fun h => h.1)) h
/-- A new row of frames is laid. -/
theorem RK.lay {w4 : World} {v' : Value} {zs' : List Fv} {B : Nat} (h : RK U K w x zs v) (hb : Below w.heap.size w w4) (hB : w.heap.size ≤ B) (ho : w4.ownsRow B 64 5 v' zs'.length (rkCs zs')) (hz : ∀ z ∈ zs', Holds2 K w4 z) (hok : AllOk (zs'.map (·.1))) :
    KTo U K w (w4.setCell ⟨x, 1, none⟩ v') x (zs'.map (·.1)) := by
  have hT := turn_set w4 x 1 v'
  have h4 := h.below hb
  have hsz := hb.size
  have hlt := ho.lt
  have hxl := h.ul x h.ux
  refine ⟨fun i => U i ∨ v'.ownBlock = some i, K, ⟨zs', v', ⟨blk_set h4.blk v', own_base (own_turn ho hT (fun g hg e => by have := (hlt g hg).1; omega)) (Nat.zero_le _), fun z hz' => (hz z hz').stay (Kept.of_turn hT (fun i hi e => ?_)) (fun _ h => h), hok, .inl h.ux, fun g hg => .inr hg, ?_, ?_, fun i hi => Nat.lt_of_lt_of_le (h.kl i hi) (Nat.le_trans hsz hT.size)⟩, rfl⟩, (Turn.of_below hb : Turn U w w4).trans hT (fun i _ e => by rw [e]; exact h.ux), ?_, fun i hi => .inl hi⟩
  · rw [e] at hi
    exact h.uk x h.ux hi
  · rintro i (h5 | h5) h6
    · exact h.uk i h5 h6
    · have := (hlt i h5).1
      have := h.kl i h6
      omega
  · rintro i (h5 | h5)
    · exact Nat.lt_of_lt_of_le (h.ul i h5) (Nat.le_trans hsz hT.size)
    · exact Nat.lt_of_lt_of_le (hlt i h5).2 hT.size
  · rintro i (h5 | h5)
    · exact .inl h5
    · exact .inr (by have := (hlt i h5).1; omega)
/-- A cell of a frame is written anew. -/
theorem RK.put {g cap k j : Nat} {u : Value} {zs' : List Fv} (h : RK U K w x zs (.slice (some ⟨g, 0, none⟩) zs.length cap)) (hl : zs'.length = zs.length) (hc : (rkCs zs).set (k * 5 + j) u = rkCs zs') (hz : ∀ z ∈ zs', Holds2 K w z) (hok : AllOk (zs'.map (·.1))) :
    KTo U K w (w.setCell ⟨g, k * 5 + j, none⟩ u) x (zs'.map (·.1)) := by
  have hT := turn_set w g (k * 5 + j) u
  have hug := h.uv g rfl
  have hne : x ≠ g := by
    rcases h.own.2 with ⟨h', _⟩ | ⟨g', cap', cur, h', _, hg, _⟩
    · cases h'
    · injection h' with h'
      injection h' with h'
      injection h' with h' _
      subst h'
      exact blk_ne h.blk (show Blk w g _ cur from hg) (by decide)
  have hst := (h.own.stored (k * 5 + j) u).1
  rw [hc] at hst
  refine ⟨U, K, ⟨zs', .slice (some ⟨g, 0, none⟩) zs.length cap, ⟨hT.blk h.blk hne, by rw [hl]; exact hst, fun z hz' => (hz z hz').stay (Kept.of_turn hT (fun i hi e => ?_)) (fun _ h => h), hok, h.ux, h.uv, h.uk, fun i hi => Nat.lt_of_lt_of_le (h.ul i hi) hT.size, fun i hi => Nat.lt_of_lt_of_le (h.kl i hi) hT.size⟩, rfl⟩, hT.mono (fun i e => by rw [e]; exact hug), fun i hi => .inl hi, fun i hi => .inl hi⟩
  rw [e] at hi
  exact h.uk g hug hi
end
theorem frame_info : (Tryz.prog.info? 64).map (fun i => (i.zero, i.size, i.bytes)) = some (some (.agg #[.int .i64 0, .string ⟨#[]⟩, .slice none 0 0, .slice none 0 0, .int .i64 0]), 5, 80) := by kernel_rfl
end Go.Proofs.YtpgkhhchpojlaaaGreatDoor
namespace Go.Proofs.YtpgkhhchpojlaaaGreatDoor
open Go.RowKit Go.Maps Go.WideMaps

section
variable {U K : Nat → Prop} {w w' : World} {x : Nat} {fs : List Fr}
theorem nNo (h : RKt U K w x fs) :
    Calls Tryz.prog 43 #[.pointer (some ⟨x, 0, none⟩)] w fun e w' => e = .returned (.bool false) ∧ w = w' := by
  obtain ⟨zs, v, h, rfl⟩ := h
  have c0 := h.c0
  clear h
  go_enter Tryz.func43, Tryz.ntmps43
  go_wp2_with fail
  go_ret
  exact ⟨rfl, rfl⟩
theorem nNamed (s : ByteArray) (hs : s.size ≤ maxLen) (w : World) :
    Calls Tryz.prog 59 #[.string s] w fun e w' => e = .returned (.bool (nmdB s)) ∧ w = w' := by
  unfold maxLen at hs
  by_cases h0 : 1 ≤ s.size
  · have hn : nmdB s = decide ((s.size : Int) ≤ 100) := by
      unfold nmdB
      rw [decide_eq_true h0, Bool.true_and]
      exact decide_eq_decide.2 (by omega)
    rw [hn]; clear hn
    have h1 : (1 : Int) ≤ (s.size : Nat) := by omega
    go_enter Tryz.func59, Tryz.ntmps59
    go_wp2_with fail
    go_ret
    exact ⟨rfl, rfl⟩
  · have hn : nmdB s = false := by unfold nmdB; rw [decide_eq_false h0]; rfl
    rw [hn]; clear hn
    have h1 : ¬ (1 : Int) ≤ (s.size : Nat) := by omega
    go_enter Tryz.func59, Tryz.ntmps59
    go_wp2_with fail
    go_ret
    exact ⟨rfl, rfl⟩
/-- over, of a frame's values. -/
theorem nOver (k : Int) (n : ByteArray) (A : Option Addr) (ln c : Nat) (A2 : Option Addr) (n2 c2 : Nat) (p : Nat) (w : World) :
    Calls Tryz.prog 62 #[.agg #[.int .i64 k, .string n, .slice A ln c, .slice A2 n2 c2, .int .i64 p]] w fun e w' => e = .returned (.bool (decide (ln ≤ p))) ∧ Below w.heap.size w w' := by
  have hb := Lib.hid ((Below.refl w.heap.size w).alloc (Nat.le_refl _) (.cells #[.int .i64 k, .string n, .slice A ln c, .slice A2 n2 c2, .int .i64 p] 64))
  have hz := Blk.new w 64 #[.int .i64 k, .string n, .slice A ln c, .slice A2 n2 c2, .int .i64 p]
  have z2 := hz.cell 2
  have z4 := hz.cell 4
  simp only [List.getElem?_toArray, List.getElem?_cons_zero, List.getElem?_cons_succ] at z2 z4
  clear hz
  go_enter Tryz.func62, Tryz.ntmps62
  go_wp2_with fail
  go_ret
  exact ⟨rfl, hb.out⟩
set_option maxRecDepth 100000 in
/-- top. -/
theorem nTop (k : Int) (h : RKt U K w x fs) :
    Calls Tryz.prog 64 #[.pointer (some ⟨x, 0, none⟩), .int .i64 k] w fun e w' => e = .returned (.int .i64 ((topN (Fr.is k) fs : Nat) - 1 : Int)) ∧ w = w' := by
  have HN := Lib.hid (nNo h)
  obtain ⟨zs, v, h, rfl⟩ := h
  obtain ⟨A, cap, rfl, hcap, hA⟩ := own_form2 h.own
  have c1 := h.c1
  have hlen := h.len
  have H := Lib.hid h
  have HA := Lib.hid hA
  clear h hA
  go_enter Tryz.func64, Tryz.ntmps64
  go_wp2_with (go_at_call 43; refine HN.out.mono ?_; rintro e w1 ⟨rfl, rfl⟩)
  go_loop [5] (fun v5 => ∃ m : Nat, m ≤ zs.length ∧ v5 = .int .i64 ((m : Int) - 1) ∧ ∀ (j : Nat) f, m ≤ j → (zs.map (·.1))[j]? = some f → Fr.is k f = false) (fun v5 => (intOf v5 + 1).toNat)
  case atStart => exact ⟨zs.length, Nat.le_refl _, rfl, fun j f hj hf => by
    have := (List.getElem?_eq_some_iff.1 hf).1
    rw [List.length_map] at this
    omega⟩
  case round =>
    obtain ⟨m, hm, hv, hb⟩ := hrel
    have HB := Lib.hid hb
    clear hb
    rcases m with _ | q
    · have HT := Lib.hid (topN_of (p := Fr.is k) (fs := zs.map (·.1)) (n := 0) (Nat.zero_le _) HB.out (fun h => absurd h (Nat.lt_irrefl 0)))
      have hv : _ = Value.int .i64 (-1) := hv
      subst hv
      go_wp2_with fail
      go_ret
      exact ⟨by rw [HT.out]; rfl, rfl⟩
    · have hv : _ = Value.int .i64 (q : Int) := hv.trans (by rw [show ((q + 1 : Nat) : Int) - 1 = q by omega])
      subst hv
      obtain ⟨g, rfl⟩ := HA.out (by omega)
      have hz := List.getElem?_eq_getElem (show q < zs.length by omega)
      generalize zs[q] = z at hz
      obtain ⟨d0, _, _, _, _⟩ := H.out.cells hz
      have HZ := Lib.hid hz
      clear hz
      by_cases hk : z.1.kind = k
      · have hB : (z.1.kind == k) = true := by simp [hk]
        have HT := Lib.hid (topN_of (p := Fr.is k) (fs := zs.map (·.1)) (n := q + 1) (by rw [List.length_map]; exact hm) HB.out (fun _ => ⟨z.1, get_fr HZ.out, decide_eq_true hk⟩))
        clear hk
        go_wp2_with fail
        go_ret
        exact ⟨ret_i (by rw [HT.out]), rfl⟩
      · have hB : (z.1.kind == k) = false := by simp [hk]
        have HK := Lib.hid hk
        clear hk
        go_wp2_with fail
        go_round
        case rel => exact ⟨q, by omega, by go_num, fun j f hj hf => by
          by_cases e : j = q
          · subst e
            obtain ⟨z', h1, h2⟩ := fr_get hf
            rw [HZ.out] at h1
            injection h1 with h1
            subst h1 h2
            exact decide_eq_false HK.out
          · exact HB.out j f (by omega) hf⟩
        case measure => simp [intOf]
/-- Depth. -/
theorem nDepth (h : RKt U K w x fs) :
    Calls Tryz.prog 40 #[.pointer (some ⟨x, 0, none⟩)] w fun e w' => e = .returned (.int .i64 (fs.length : Nat)) ∧ w = w' := by
  have HN := Lib.hid (nNo h)
  obtain ⟨zs, v, h, rfl⟩ := h
  obtain ⟨A, cap, rfl, hcap, hA⟩ := own_form2 h.own
  have c1 := h.c1
  rw [List.length_map]
  clear h hA
  go_enter Tryz.func40, Tryz.ntmps40
  go_wp2_with (go_at_call 43; refine HN.out.mono ?_; rintro e w1 ⟨rfl, rfl⟩)
  go_ret
  exact ⟨rfl, rfl⟩
/-- A frame of the stack, by its place. -/
theorem RKt.at_ (h : RKt U K w x fs) {n : Nat} (h0 : 0 < n) (hn : n ≤ fs.length) : ∃ g c v1 v2, w.cell? ⟨x, 1, none⟩ = some (.slice (some ⟨g, 0, none⟩) fs.length c) ∧ fs.length ≤ c ∧ w.cell? ⟨g, (n - 1) * 5 + 1, none⟩ = some (.string (frI fs (n - 1)).name) ∧
    w.cell? ⟨g, (n - 1) * 5 + 2, none⟩ = some v1 ∧ w.cell? ⟨g, (n - 1) * 5 + 3, none⟩ = some v2 ∧ w.cell? ⟨g, (n - 1) * 5 + 4, none⟩ = some (.int .i64 ((frI fs (n - 1)).pos : Nat)) ∧ LnsAt K w v1 (frI fs (n - 1)).lines ∧ SsAt K w v2 (frI fs (n - 1)).args ∧ (frI fs (n - 1)).Ok := by
  obtain ⟨zs, v, h, rfl⟩ := h
  rw [List.length_map] at hn ⊢
  obtain ⟨g, cap, rfl, hc, _, _⟩ := own_pos h.own (by omega)
  have hz := List.getElem?_eq_getElem (show n - 1 < zs.length by omega)
  obtain ⟨_, d1, d2, d3, d4⟩ := h.cells hz
  rw [frI_at (get_fr hz)]
  have hh := h.hold _ (List.mem_of_getElem? hz)
  exact ⟨g, cap, _, _, h.c1, hc, d1, d2, d3, d4, hh.1, hh.2, h.okAt hz⟩
set_option maxRecDepth 100000 in
/-- Line. -/
theorem nLineNo (h : RKt U K w x fs) :
    Calls Tryz.prog 39 #[.pointer (some ⟨x, 0, none⟩)] w fun e w' => e = .returned (.int .i64 (lnI fs : Nat)) ∧ w = w' := by
  have HT := Lib.hid (nTop 1 h)
  have hle : filN fs ≤ fs.length := topN_le fs
  have hlen := h.ok.1
  unfold lnI
  change Hid (Calls Tryz.prog 64 #[.pointer (some ⟨x, 0, none⟩), .int .i64 1] w fun e w' => e = .returned (.int .i64 ((filN fs : Nat) - 1 : Int)) ∧ w = w') at HT
  by_cases h0 : filN fs = 0
  · rw [if_pos h0]
    rw [h0] at HT
    clear h
    go_enter Tryz.func39, Tryz.ntmps39
    go_wp2_with (go_at_call 64; refine HT.out.mono ?_; rintro e w1 ⟨rfl, rfl⟩)
    go_ret
    exact ⟨rfl, rfl⟩
  · rw [if_neg h0]
    obtain ⟨g, c, v1, v2, c1, hc, d1, d2, d3, d4, _⟩ := h.at_ (by omega) hle
    obtain ⟨q, hq⟩ : ∃ q, filN fs = q + 1 := ⟨filN fs - 1, by omega⟩
    rw [hq] at HT hle
    rw [hq] at d4 ⊢
    simp only [Nat.add_sub_cancel] at d4 ⊢
    rw [show ((q + 1 : Nat) : Int) - 1 = (q : Int) by omega] at HT
    generalize (frI fs q).pos = p at *
    clear h hq h0 d1 d2 d3
    go_enter Tryz.func39, Tryz.ntmps39
    go_wp2_with (go_at_call 64; refine HT.out.mono ?_; rintro e w1 ⟨rfl, rfl⟩)
    go_ret
    exact ⟨rfl, rfl⟩
set_option maxRecDepth 100000 in
/-- Name. -/
theorem nName (h : RKt U K w x fs) :
    Calls Tryz.prog 37 #[.pointer (some ⟨x, 0, none⟩)] w fun e w' => e = .returned (.string (nmS fs)) ∧ w = w' := by
  have HT := Lib.hid (nTop 2 h)
  have HT1 := Lib.hid (nTop 1 h)
  have hl1 : filN fs ≤ fs.length := topN_le fs
  have hl2 : macN fs ≤ fs.length := topN_le fs
  have hlen := h.ok.1
  unfold nmS
  change Hid (Calls Tryz.prog 64 #[.pointer (some ⟨x, 0, none⟩), .int .i64 2] w fun e w' => e = .returned (.int .i64 ((macN fs : Nat) - 1 : Int)) ∧ w = w') at HT
  change Hid (Calls Tryz.prog 64 #[.pointer (some ⟨x, 0, none⟩), .int .i64 1] w fun e w' => e = .returned (.int .i64 ((filN fs : Nat) - 1 : Int)) ∧ w = w') at HT1
  have hmx : max ((macN fs : Nat) - 1 : Int) ((filN fs : Nat) - 1 : Int) = ((nmN fs : Nat) : Int) - 1 := by unfold nmN; omega
  have hle : nmN fs ≤ fs.length := by unfold nmN; omega
  by_cases h0 : nmN fs = 0
  · rw [if_pos h0]
    have e1 : macN fs = 0 := by unfold nmN at h0; omega
    have e2 : filN fs = 0 := by unfold nmN at h0; omega
    rw [e1] at HT
    rw [e2] at HT1
    clear h hl1 hl2 hmx hle h0 e1 e2
    go_enter Tryz.func37, Tryz.ntmps37
    go_wp2_with (first
      | (go_at_call 64; with_reducible refine HT.out.mono ?_; rintro e w1 ⟨rfl, rfl⟩)
      | (go_at_call 64; with_reducible refine HT1.out.mono ?_; rintro e w1 ⟨rfl, rfl⟩))
    go_ret
    exact ⟨rfl, rfl⟩
  · rw [if_neg h0]
    obtain ⟨g, c, v1, v2, c1, hc, d1, d2, d3, d4, _⟩ := h.at_ (by omega) hle
    obtain ⟨q, hq⟩ : ∃ q, nmN fs = q + 1 := ⟨nmN fs - 1, by omega⟩
    rw [hq] at hmx hle
    rw [hq] at d1 ⊢
    simp only [Nat.add_sub_cancel] at d1 ⊢
    rw [show ((q + 1 : Nat) : Int) - 1 = (q : Int) by omega] at hmx
    generalize (frI fs q).name = p at *
    generalize ((macN fs : Nat) - 1 : Int) = a1 at *
    generalize ((filN fs : Nat) - 1 : Int) = a2 at *
    clear h hq h0 d4 d2 d3 hl1 hl2
    by_cases h12 : a2 ≤ a1
    · obtain rfl : a1 = q := by omega
      clear hmx
      go_enter Tryz.func37, Tryz.ntmps37
      go_wp2_with (first
        | (go_at_call 64; with_reducible refine HT.out.mono ?_; rintro e w1 ⟨rfl, rfl⟩)
        | (go_at_call 64; with_reducible refine HT1.out.mono ?_; rintro e w1 ⟨rfl, rfl⟩))
      go_ret
      exact ⟨rfl, rfl⟩
    · obtain rfl : a2 = q := by omega
      clear hmx
      go_enter Tryz.func37, Tryz.ntmps37
      go_wp2_with (first
        | (go_at_call 64; with_reducible refine HT.out.mono ?_; rintro e w1 ⟨rfl, rfl⟩)
        | (go_at_call 64; with_reducible refine HT1.out.mono ?_; rintro e w1 ⟨rfl, rfl⟩))
      go_ret
      exact ⟨rfl, rfl⟩
/-- New. -/
theorem nNew (w : World) :
    Calls Tryz.prog 8 #[] w fun e w' => ∃ x, e = .returned (.pointer (some ⟨x, 0, none⟩)) ∧ RKt (fun i => w.heap.size ≤ i ∧ i < w'.heap.size) (fun _ => False) w' x [] ∧ Below w.heap.size w w' := by
  have hb := Lib.hid ((Below.refl w.heap.size w).alloc (Nat.le_refl _) (.cells #[.bool true, .slice none 0 0] 52))
  have hz := Lib.hid (Blk.new w 52 #[.bool true, .slice none 0 0])
  go_enter Tryz.func8, Tryz.ntmps8
  go_wp2_with fail
  go_ret
  refine ⟨_, rfl, ⟨[], .slice none 0 0, ⟨hz.out, World.ownsRow_nil _ _ _ _, fun z hz => (by cases hz), ⟨Nat.zero_le _, fun f hf => (by cases hf)⟩, ⟨Nat.le_refl _, by simp⟩, fun g hg => (by cases hg), fun _ _ h => h, fun i hi => hi.2, fun i hi => hi.elim⟩, rfl⟩, hb.out⟩
end
end Go.Proofs.YtpgkhhchpojlaaaGreatDoor
namespace Go.Proofs.YtpgkhhchpojlaaaGreatDoor
open Go.RowKit Go.Maps Go.WideMaps

set_option maxRecDepth 100000 in
set_option maxHeartbeats 1000000 in
/-- read. -/
theorem nRead (s : ByteArray) (hs : s.size ≤ 1000000) (w : World) :
    Calls Tryz.prog 58 #[.string s] w fun e w' => ∃ A n c, e = .returned (.tuple #[.slice A n c, .bool (rdB s)]) ∧ (rdB s = true → LnsAt (fun k => w.heap.size ≤ k ∧ k < w'.heap.size) w' (.slice A n c) (rdL s)) ∧ Below w.heap.size w w' := by
  obtain ⟨i0, hi0, hz0, hz1, hz2⟩ := info_parts line_info
  have HLn := Lib.hid (nLines s hs w)
  have hll := lnsT_len s
  have HSz := Lib.hid (lnsT_size s)
  unfold rdB rdL
  generalize lnsT s = L at *
  go_enter Tryz.func58, Tryz.ntmps58
  go_wp2_with (go_at_call 75; refine HLn.out.mono ?_; rintro e w1 ⟨v, rfl, hv, hb1⟩; obtain ⟨A, cap, rfl, hn, hm, hrow⟩ := id hv; have HRow := Lib.hid hrow; have HB1 := Lib.hid hb1; clear hrow hv hb1)
  unfold maxLen at hm
  go_loopw [5, 6] (fun v5 v6 wr => ∃ (k : Nat) (css : List (List Value)), k ≤ L.length ∧ v6 = .int .i64 k ∧ RowGo 5 lnP w1.heap.size 31 wr v5 ((L.map tLn).take k) css ∧ Below w1.heap.size w1 wr ∧ ∀ (j : Nat) y, j < k → L[j]? = some y → y.size ≤ 2000) (fun _ v6 _ => L.length - (intOf v6).toNat)
  case atStart => exact ⟨0, [], Nat.zero_le _, rfl, RowGo.nil _ _ _, Below.refl _ _, fun j y h => by omega⟩
  case round =>
    obtain ⟨k, css, hk, rfl, hgo, hb, hall⟩ := hrel
    have HAll := Lib.hid hall
    clear hall
    by_cases hlt : k < L.length
    · obtain ⟨g, off, rfl, hKg, hr⟩ := HRow.out (by omega)
      have hx := List.getElem?_eq_getElem hlt
      obtain ⟨c0, hs0⟩ := hr k _ hx
      have hz := HSz.out _ (List.mem_of_getElem? hx)
      generalize L[k] = y at *
      rw [Nat.mul_one] at c0
      have c1 : wr.cell? ⟨g, off + k, none⟩ = some (.string y) := (cell_same (p := ⟨g, off + k, none⟩) (hb.block g (cell_lt c0))).trans c0
      have HX := Lib.hid hx
      clear hx hr c0
      by_cases h2 : y.size ≤ 2000
      · have h2i : ¬ (2000 : Int) < (y.size : Nat) := by omega
        have hlk : ((L.map tLn).take k).length = k := by rw [List.length_take, List.length_map]; omega
        have hown := hgo.2.1
        rw [hlk] at hown
        obtain ⟨A5, c5, rfl, _, _⟩ := own_form2 hown
        have hb5 : Below wr.heap.size wr (wr.alloc (.cells #[.string y, .bool false, .int .i64 0, .int .i64 0, .slice none 0 0] 31)) := (Below.refl _ _).alloc (Nat.le_refl _) _
        have HO5 := Lib.hid (own_turn (S := fun _ => False) hown (Turn.of_below hb5) (fun _ _ => id))
        have hn5 := Lib.hid (Blk.new wr 31 #[.string y, .bool false, .int .i64 0, .int .i64 0, .slice none 0 0])
        have hg5 := RowGo.below (P := lnP) (fun h a b => h.stay a b) hgo hb5
        have htk : (L.map tLn).take (k + 1) = (L.map tLn).take k ++ [tLn y] := by
          obtain ⟨hk2, e2⟩ := List.getElem?_eq_some_iff.1 HX.out
          rw [List.take_succ_eq_append_getElem (by rw [List.length_map]; exact hk2), List.getElem_map, e2]
        have HStep := Lib.hid (fun (w6 : World) (v1 : Value) hg hown1 hat => RowGo.step (P := lnP) (w2 := w6) (v1 := v1) (fun h a b => h.stay a b) hg5 (x := tLn y) (cs := [.string y, .bool false, .int .i64 0, .int .i64 0, .slice none 0 0]) hg rfl ⟨.slice none 0 0, rfl, RowAt.nil, hs0, Nat.zero_le _⟩ hown1 hat)
        have HTk := Lib.hid htk
        have HLk := Lib.hid hlk
        clear hgo hg5 htk hlk hown
        go_wp2_with (at_builtin
                     refine wpList_append_own_at _ rfl (.tmp 21) (.tmp 27) _ rfl w1.heap.size 31 i0 _ 5 64 Tryz.underlying35 hi0 hz0 hz1 hz2 rfl (by omega) (.slice A5 k c5) k _ rfl HO5.out ⟨wr.heap.size, 0, none⟩ 1 1 [.string y, .bool false, .int .i64 0, .int .i64 0, .slice none 0 0] rfl
                       rfl (cells_new hn5.out) (by intro u hu; simp only [List.mem_cons, List.not_mem_nil, or_false] at hu; rcases hu with rfl | rfl | rfl | rfl | rfl <;> rfl) (by unfold maxLen; omega) (by omega) (by have := hb.size; simp; omega) ?_
                     intro v1 w6 hown1 hg1 _ hat1)
        go_roundw
        case rel =>
          refine ⟨k + 1, css ++ [[.string y, .bool false, .int .i64 0, .int .i64 0, .slice none 0 0]], by omega, by go_num, ?_, (hb.trans (hb5.mono hb.size)).grown hg1 (by have := hb.size; have := hb5.size; omega) (fun q hq => own_ge HO5.out hq), fun j y2 hj hy => ?_⟩
          · rw [HTk.out]
            exact HStep.out w6 v1 hg1 (by rw [HLk.out]; exact hown1) hat1
          · by_cases e : j = k
            · subst e
              rw [HX.out] at hy
              injection hy with hy
              rw [← hy]; exact h2
            · exact HAll.out j y2 (by omega) hy
        case measure => simp [intOf]; omega
      · have h2i : (2000 : Int) < (y.size : Nat) := by omega
        have hno : L.all (fun x => decide (x.size ≤ 2000)) = false := by
          rw [List.all_eq_false]
          exact ⟨y, List.mem_of_getElem? HX.out, by simp; omega⟩
        have HNo := Lib.hid hno
        clear hno hgo
        go_wp2
        go_ret2
        exact ⟨none, 0, 0, by rw [HNo.out, Bool.false_and]; rfl, fun h => (by rw [HNo.out, Bool.false_and] at h; cases h), HB1.out.trans (hb.mono HB1.out.size)⟩
    · have e : k = L.length := by omega
      subst e
      have hyes : L.all (fun x => decide (x.size ≤ 2000)) = true := by
        rw [List.all_eq_true]
        intro y hy
        obtain ⟨j, hj, rfl⟩ := List.getElem_of_mem hy
        exact decide_eq_true (HAll.out j _ hj (List.getElem?_eq_getElem hj))
      have HYes := Lib.hid hyes
      rw [show (L.map tLn).take L.length = L.map tLn from List.take_of_length_le (by rw [List.length_map]; exact Nat.le_refl _)] at hgo
      have hrow := (RowGo.row (P := lnP) (R := lnR) (fun h hc => h.r hc) (fun h hK => h.on hK) hgo)
      obtain ⟨A5, c5, rfl, _, _⟩ := own_form2 hgo.2.1
      have HR := Lib.hid hrow
      have hs1 := HB1.out.size
      have H20 := Lib.hid (show decide (L.length ≤ 20000) = decide ((L.length : Int) ≤ 20000) from decide_eq_decide.2 (by omega))
      clear hgo hrow hyes
      go_wp2
      go_ret2
      exact ⟨A5, (L.map tLn).length, c5, by rw [HYes.out, Bool.true_and, H20.out]; rfl, fun _ => LnsAt.stay HR.out (fun _ _ _ => rfl) (fun i hi => ⟨Nat.le_trans hs1 hi.1, hi.2⟩), HB1.out.trans (hb.mono hs1)⟩
end Go.Proofs.YtpgkhhchpojlaaaGreatDoor
