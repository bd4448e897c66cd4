/- Walk: Add, of the document's store. Walk: Add, of the document's store, whole. -/
import Derived.Test.YtbedddgfijpbcaaGreatTb
namespace Go.Proofs.YtbedddgfijpbcaaGreat
open Go.RowKit Go.Maps Go.WideMaps

section
variable {U K : Nat → Prop} {w w' : World} {x : Nat} {M : List Ent} {es : List En}
/-- Where no lines are there to append to, Add is Macro. -/
theorem ad_mc {E : Nat → En} {s : ByteArray} {ls : List Ln} (h : adL M E s ls = ls) : adE M E s ls = mcE M s ls := by
  unfold adE mcE
  rw [h]
set_option maxRecDepth 100000 in
set_option maxHeartbeats 1000000 in
/-- Add, of lines that are none. -/
theorem nAddBad (s : ByteArray) (K0 : Nat → Prop) (v : Value) (ls : List Ln) (hv : LnsAt K0 w v ls) (hK0 : ∀ k, K0 k → k < w.heap.size) (h : RSt U K w x M es) (hx : lnsB ls = false) :
    Calls Tryz.prog 27 #[.pointer (some ⟨x, 0, none⟩), .string s, v] w fun e w' => e = .returned (.int .i64 1) ∧ RTo U K w w' x M es := by
  have HZ := Lib.hid (nNo h)
  have HT := nLns K0 v ls w hv hK0
  rw [hx] at HT
  have HT := Lib.hid HT
  have HS := Lib.hid (fun w' (hb : Below w.heap.size w w') => RTo.same h hb)
  obtain ⟨Av, cv, rfl, hn1, _, _⟩ := hv
  clear h
  go_enter Tryz.func27, Tryz.ntmps27
  go_wp2_with (first
    | (go_at_call 38; refine HZ.out.mono ?_; rintro e w1 ⟨rfl, rfl⟩)
    | (go_at_call 54; refine HT.out.mono ?_; rintro e w1 ⟨rfl, hb1⟩))
  go_ret
  exact ⟨rfl, HS.out _ hb1⟩
set_option maxRecDepth 100000 in
set_option maxHeartbeats 1000000 in
/-- Add, where no lines are. -/
theorem nAddNo (s : ByteArray) (K0 : Nat → Prop) (v : Value) (ls : List Ln) (hs : s.size ≤ maxLen) (hll : ls.length ≤ 6000) (hv : LnsAt K0 w v ls) (hK0 : ∀ k, K0 k → k < w.heap.size) (hz : es.length ≤ 1000000) (h : RSt U K w x M es) (hx : lnsB ls = true) (hno : nameB s = false ∨ hasB M s = false ∨ (hasB M s = true ∧ ∃ t0, eF es (getR M s) = .str t0)) :
    Calls Tryz.prog 27 #[.pointer (some ⟨x, 0, none⟩), .string s, v] w fun e w' => e = .returned (.int .i64 (mcE M s ls)) ∧ RTo U K w w' x (dnM (lnsB ls && nameB s && decide (ls.length ≤ 2000)) M es s) (dnZ (lnsB ls && nameB s && decide (ls.length ≤ 2000)) M es s (.mac ls)) := by
  have HZ := Lib.hid (nNo h)
  have HT := nLns K0 v ls w hv hK0
  rw [hx] at HT
  have HT := Lib.hid HT
  have HN := Lib.hid (fun w => nName s hs w)
  have HM := Lib.hid (fun (w1 : World) (hb : Below w.heap.size w w1) => (nMacro s K0 v ls hs (by omega) (hv.stay (K' := K0) (Kept.of_below hb hK0) (fun _ h => h)) (fun k hk => Nat.lt_of_lt_of_le (hK0 k hk) hb.size) hz (h.below hb)).mono fun r w' ⟨e1, e2⟩ => (⟨e1, RTo.from_ hb e2⟩ : r = Ending.returned (.int .i64 (mcE M s ls)) ∧ RTo U K w w' x (dnM (lnsB ls && nameB s && decide (ls.length ≤ 2000)) M es s) (dnZ (lnsB ls && nameB s && decide (ls.length ≤ 2000)) M es s (.mac ls))))
  have hF := fun (w1 : World) (hb : Below w.heap.size w w1) => nFind s (h.below hb)
  unfold fdI at hF
  have hgood := h.srt.2.2
  have hat := fun hh => h.at_ (s := s) hh
  have hq := fun (k : Nat) hk => h.q2 k hk
  obtain ⟨Av, cv, rfl, hn1, _, _⟩ := hv
  clear h
  generalize mcE M s ls = pe at HM ⊢
  generalize dnM (lnsB ls && nameB s && decide (ls.length ≤ 2000)) M es s = M2 at HM ⊢
  generalize dnZ (lnsB ls && nameB s && decide (ls.length ≤ 2000)) M es s (.mac ls) = Z2 at HM ⊢
  cases hn : nameB s
  · rw [hn] at HN
    clear hno hF
    go_enter Tryz.func27, Tryz.ntmps27
    go_wp2_with (first
      | (go_at_call 38; refine HZ.out.mono ?_; rintro e w1 ⟨rfl, rfl⟩)
      | (go_at_call 54; refine HT.out.mono ?_; rintro e w1 ⟨rfl, hb1⟩)
      | (go_at_call 51; refine (HN.out _).mono ?_; rintro e w2 ⟨rfl, rfl⟩)
      | (go_at_call 26; refine (HM.out _ hb1).mono ?_; rintro e w3 ⟨rfl, hr⟩))
    go_ret
    exact ⟨rfl, hr⟩
  · rw [hn] at HN
    cases hh : hasB M s
    · rw [hh] at hF
      simp only [Bool.false_eq_true, if_false] at hF
      have HF := Lib.hid hF
      clear hno hF
      go_enter Tryz.func27, Tryz.ntmps27
      go_wp2_with (first
        | (go_at_call 38; refine HZ.out.mono ?_; rintro e w1 ⟨rfl, rfl⟩)
        | (go_at_call 54; refine HT.out.mono ?_; rintro e w1 ⟨rfl, hb1⟩)
        | (go_at_call 51; refine (HN.out _).mono ?_; rintro e w2 ⟨rfl, rfl⟩)
        | (go_at_call 53; refine (HF.out _ hb1).mono ?_; rintro e w2 ⟨rfl, rfl⟩)
        | (go_at_call 26; refine (HM.out _ hb1).mono ?_; rintro e w3 ⟨rfl, hr⟩))
      go_ret
      exact ⟨rfl, hr⟩
    · obtain ⟨t0, hls⟩ : ∃ t0, eF es (getR M s) = .str t0 := by
        rcases hno with h | h | h
        · rw [hn] at h; cases h
        · rw [hh] at h; cases h
        · exact h.2
      rw [hh] at hF
      simp only [if_true] at hF
      have hat := hat hh
      obtain ⟨k, hk⟩ : ∃ k : Nat, getR M s = k := ⟨_, rfl⟩
      simp only [hk] at hF hat hls
      have hat : @LT.lt Nat _ k es.length := hat
      obtain ⟨g, c, v, c2, hc, d0, _, _, _⟩ := hq k hat
      rw [hls] at d0
      simp only [En.kind] at d0
      have HF := Lib.hid hF
      have HC2 := Lib.hid (fun (w1 : World) (hb : Below w.heap.size w w1) => (⟨(hb.cell (p := ⟨x, 2, none⟩) (cell_lt c2)).trans c2, (hb.cell (p := ⟨g, k * 2, none⟩) (cell_lt d0)).trans d0⟩ : w1.cell? ⟨x, 2, none⟩ = some (.slice (some ⟨g, 0, none⟩) es.length c) ∧ w1.cell? ⟨g, k * 2, none⟩ = some (.int .i64 1)))
      have hk0 : ¬ ((k : Nat) : Int) < 0 := by omega
      clear hno hF hq hls hk
      go_enter Tryz.func27, Tryz.ntmps27
      go_wp2_with (first
        | (go_at_call 38; refine HZ.out.mono ?_; rintro e w1 ⟨rfl, rfl⟩)
        | (go_at_call 54; refine HT.out.mono ?_; rintro e w1 ⟨rfl, hb1⟩; obtain ⟨x2, y0⟩ := HC2.out _ hb1)
        | (go_at_call 51; refine (HN.out _).mono ?_; rintro e w2 ⟨rfl, rfl⟩)
        | (go_at_call 53; refine (HF.out _ hb1).mono ?_; rintro e w2 ⟨rfl, rfl⟩)
        | (go_at_call 26; refine (HM.out _ hb1).mono ?_; rintro e w3 ⟨rfl, hr⟩))
      go_ret
      exact ⟨rfl, hr⟩
/-- Lines that are appended onto others, with a call between. -/
def AddTo (U K : Nat → Prop) (w w4 : World) (x g k : Nat) (A' : Option Addr) (n c' : Nat) (c : Nat) (M : List Ent) (es : List En) (ls : List Ln) : Prop :=
  Below w.heap.size w w4 ∧ w4.cell? ⟨x, 2, none⟩ = some (.slice (some ⟨g, 0, none⟩) es.length c) ∧ (ls.length ≤ 2000 → (∃ v0 v1, w4.cell? ⟨g, k * 2, none⟩ = some v0 ∧ (w4.setCell ⟨g, k * 2, none⟩ (.int .i64 2)).cell? ⟨g, k * 2 + 1, none⟩ = some v1) ∧ w4.frozen? ⟨g, k * 2, none⟩ = false ∧ (w4.setCell ⟨g, k * 2, none⟩ (.int .i64 2)).frozen? ⟨g, k * 2 + 1, none⟩ = false ∧
      RTo U K w ((w4.setCell ⟨g, k * 2, none⟩ (.int .i64 2)).setCell ⟨g, k * 2 + 1, none⟩ (.slice A' n c')) x M (es.set k (.mac ls)))
theorem addRun {K0 : Nat → Prop} {v v0 : Value} {ls l0 : List Ln} {k g c : Nat} (h : RSt U K w x M es) (hat : k < es.length) (c2 : w.cell? ⟨x, 2, none⟩ = some (.slice (some ⟨g, 0, none⟩) es.length c)) (hl : LnsAt K w v0 l0) (hl0 : l0.length ≤ 2000) (hll : ls.length ≤ 6000) (hv : LnsAt K0 w v ls) (hK0 : ∀ k, K0 k → k < w.heap.size) {w1 : World} (hb1 : Below w.heap.size w w1) (ty ty2 : TypeId) :
    ∃ A1 c1 w2, (Builtin.append_ #[31, 31] ty #[.slice (some ⟨w1.heap.size, 0, none⟩) 0 0, v0]).run Tryz.prog (w1.alloc (.cells #[] 39)) = .ok (.slice A1 l0.length c1) w2 ∧
      Calls Tryz.prog 39 #[v] w2 fun e w3 => ∃ A3 n3 c3, e = .returned (.slice A3 n3 c3) ∧ ∃ A4 c4 w4, (Builtin.append_ #[31, 31] ty2 #[.slice A1 l0.length c1, .slice A3 n3 c3]).run Tryz.prog w3 = .ok (.slice A4 (l0.length + ls.length) c4) w4 ∧ AddTo U K w w4 x g k A4 (l0.length + ls.length) c4 c M es (l0 ++ ls) := by
  have hb1a : Below w.heap.size w (w1.alloc (.cells #[] 39)) := hb1.alloc hb1.size _
  have hKl := h.sets.2.2
  obtain ⟨A1, c1, w2, r1, q1, q2, q3, q4⟩ := appNew (K := K) (w1.alloc (.cells #[] 39)) ty w1.heap.size (hl.stay (Kept.of_all hb1a) (fun _ h => h)) (by omega) (fun i hi => Nat.lt_of_lt_of_le (hKl i hi) hb1a.size)
  have hb2 : Below w.heap.size w w2 := hb1a.trans (q3.mono hb1a.size)
  refine ⟨A1, c1, w2, q1, ?_⟩
  refine (nOwnAll (K := K0) v ls (hv.stay (Kept.of_below hb2 hK0) (fun _ h => h)) (fun k hk => Nat.lt_of_lt_of_le (hK0 k hk) hb2.size) (by omega)).mono ?_
  rintro e w3 ⟨v3, rfl, hl3, hb3⟩
  obtain ⟨A3, n3, c3, rfl⟩ : ∃ A n c, v3 = .slice A n c := by
    obtain ⟨A, c, e, _⟩ := hl3
    exact ⟨A, _, c, e⟩
  have hs1 := hb1a.size
  have hs2 := q3.size
  have hs3 := hb3.size
  obtain ⟨A4, c4, w4, r4, p1, p2, p3, p4⟩ := runAppL w3 ty2 (q2.stay (Kept.of_all hb3) (fun _ h => h)) hl3 (by omega) (fun i hi => ⟨(q4 i hi).2.2, fun h2 => by have := (q4 i hi).2.1; omega⟩) (fun i hi => by
    rcases hi with hi | hi
    · have := hKl i hi; omega
    · exact hi.2)
  have hb4 : Below w.heap.size w w4 := p3.below (hb2.trans (hb3.mono hb2.size)) (by omega) (fun i hi => by have := (q4 i hi).1; omega)
  refine ⟨A3, n3, c3, rfl, A4, c4, w4, p1, hb4, (hb4.cell (p := ⟨x, 2, none⟩) (cell_lt c2)).trans c2, fun hz => ?_⟩
  have hs4 := p3.size
  exact h.setAt (en := .mac (l0 ++ ls)) hat c2 hb4 (p2.rd (fun i hi => .inr ⟨by
    rcases (p4 i hi).1 with h2 | h2
    · have := (q4 i h2).1; omega
    · omega, (p4 i hi).2.1⟩) (fun i hi => by
    rcases hi with hi | hi
    · exact .inl hi
    · exact .inr ⟨by omega, by omega⟩)) hz
end
end Go.Proofs.YtbedddgfijpbcaaGreat
namespace Go.Proofs.YtbedddgfijpbcaaGreat
open Go.RowKit Go.Maps Go.WideMaps

section
variable {U K : Nat → Prop} {w w' : World} {x : Nat} {M : List Ent} {es : List En}
set_option maxRecDepth 100000 in
set_option maxHeartbeats 2000000 in
/-- Add, onto lines. -/
theorem nAddMac (s : ByteArray) (K0 : Nat → Prop) (v : Value) (ls l0 : List Ln) (hs : s.size ≤ maxLen) (hll : ls.length ≤ 6000) (hv : LnsAt K0 w v ls) (hK0 : ∀ k, K0 k → k < w.heap.size) (h : RSt U K w x M es) (hx : lnsB ls = true) (hn : nameB s = true) (hh : hasB M s = true) (he : eF es (getR M s) = .mac l0) :
    Calls Tryz.prog 27 #[.pointer (some ⟨x, 0, none⟩), .string s, v] w fun e w' => e = .returned (.int .i64 (if 2000 < (l0 ++ ls).length then 2 else 0)) ∧ RTo U K w w' x M (if 2000 < (l0 ++ ls).length then es else es.set (getR M s) (.mac (l0 ++ ls))) := by
  have HZ := Lib.hid (nNo h)
  have HT := nLns K0 v ls w hv hK0
  rw [hx] at HT
  have HT := Lib.hid HT
  have HN := fun w => nName s hs w
  rw [hn] at HN
  have HN := Lib.hid HN
  have hF := fun (w1 : World) (hb : Below w.heap.size w w1) => nFind s (h.below hb)
  unfold fdI at hF
  rw [if_pos hh] at hF
  have hat := h.at_ hh
  obtain ⟨k, hk⟩ : ∃ k : Nat, getR M s = k := ⟨_, rfl⟩
  simp only [hk] at hF hat he ⊢
  have hat : @LT.lt Nat _ k es.length := hat
  obtain ⟨g, c, v0, c2, hc, d0, d1, hl, ho⟩ := h.q2 k hat
  rw [he] at d0 hl ho
  simp only [En.kind] at d0
  have hl : LnsAt K w v0 l0 := hl
  have ho : l0.length ≤ 2000 := ho
  obtain ⟨A0, cc, rfl, hcc, _, _⟩ := id hl
  have HF := Lib.hid hF
  have HS := Lib.hid (fun w' (hb : Below w.heap.size w w') => RTo.same h hb)
  have HC2 := Lib.hid (fun (w1 : World) (hb : Below w.heap.size w w1) => (⟨(hb.cell (p := ⟨x, 2, none⟩) (cell_lt c2)).trans c2, (hb.cell (p := ⟨g, k * 2, none⟩) (cell_lt d0)).trans d0, (hb.cell (p := ⟨g, k * 2 + 1, none⟩) (cell_lt d1)).trans d1⟩ : w1.cell? ⟨x, 2, none⟩ = some (.slice (some ⟨g, 0, none⟩) es.length c) ∧ w1.cell? ⟨g, k * 2, none⟩ = some (.int .i64 2) ∧ w1.cell? ⟨g, k * 2 + 1, none⟩ = some (.slice A0 l0.length cc)))
  have HRun := Lib.hid (fun (w1 : World) (hb1 : Below w.heap.size w w1) => addRun h hat c2 hl ho hll hv hK0 hb1 31 31)
  have hk0 : ¬ ((k : Nat) : Int) < 0 := by omega
  have hlen : (l0 ++ ls).length = l0.length + ls.length := List.length_append
  rw [hlen]
  obtain ⟨Av, cv, rfl, hn1, _, _⟩ := hv
  by_cases hbig : 2000 < l0.length + ls.length
  · simp only [if_pos hbig]
    have hbI : (2000 : Int) < ((l0.length : Nat) : Int) + ((ls.length : Nat) : Int) := by omega
    clear h hF hl hlen he
    go_enter Tryz.func27, Tryz.ntmps27
    go_wp2_with (first
      | (go_at_call 38; refine HZ.out.mono ?_; rintro e w1 ⟨rfl, rfl⟩)
      | (go_at_call 54; refine HT.out.mono ?_; rintro e w1 ⟨rfl, hb1⟩; obtain ⟨x2, y0, y1⟩ := HC2.out _ hb1; obtain ⟨x2', y0', y1'⟩ := HC2.out _ (hb1.alloc hb1.size (.cells #[] 39)); obtain ⟨A1, c1, w2, hrun, hown⟩ := HRun.out _ hb1; have HR1 := Lib.hid hrun; have HO1 := Lib.hid hown; clear hrun hown)
      | (go_at_call 51; refine (HN.out _).mono ?_; rintro e w2 ⟨rfl, rfl⟩)
      | (go_at_call 53; refine (HF.out _ hb1).mono ?_; rintro e w2 ⟨rfl, rfl⟩)
      | (at_builtin; refine wpList_append_run _ rfl (.tmp 38) (.tmp 46) _ rfl _ _ rfl rfl _ _ HR1.out ?_)
      | (go_at_call 39; refine HO1.out.mono ?_; rintro e w3 ⟨A3, n3, c3, rfl, A4, c4, w4, hrun2, hto⟩; have HR2 := Lib.hid hrun2; have HTo := Lib.hid hto; clear hrun2 hto)
      | (at_builtin; refine wpList_append_run _ rfl (.tmp 47) (.tmp 49) _ rfl _ _ rfl rfl _ _ HR2.out ?_))
    go_ret
    exact ⟨rfl, HS.out _ HTo.out.1⟩
  · simp only [if_neg hbig]
    have hbI : ¬ (2000 : Int) < ((l0.length : Nat) : Int) + ((ls.length : Nat) : Int) := by omega
    have hle : (l0 ++ ls).length ≤ 2000 := by omega
    have HLe := Lib.hid hle
    clear h hF hl hlen he hle
    go_enter Tryz.func27, Tryz.ntmps27
    go_wp2_with (first
      | (go_at_call 38; refine HZ.out.mono ?_; rintro e w1 ⟨rfl, rfl⟩)
      | (go_at_call 54; refine HT.out.mono ?_; rintro e w1 ⟨rfl, hb1⟩; obtain ⟨x2, y0, y1⟩ := HC2.out _ hb1; obtain ⟨x2', y0', y1'⟩ := HC2.out _ (hb1.alloc hb1.size (.cells #[] 39)); obtain ⟨A1, c1, w2, hrun, hown⟩ := HRun.out _ hb1; have HR1 := Lib.hid hrun; have HO1 := Lib.hid hown; clear hrun hown)
      | (go_at_call 51; refine (HN.out _).mono ?_; rintro e w2 ⟨rfl, rfl⟩)
      | (go_at_call 53; refine (HF.out _ hb1).mono ?_; rintro e w2 ⟨rfl, rfl⟩)
      | (at_builtin; refine wpList_append_run _ rfl (.tmp 38) (.tmp 46) _ rfl _ _ rfl rfl _ _ HR1.out ?_)
      | (go_at_call 39; refine HO1.out.mono ?_; rintro e w3 ⟨A3, n3, c3, rfl, A4, c4, w4, hrun2, hto⟩; have HR2 := Lib.hid hrun2; have z2 := hto.2.1; obtain ⟨⟨v0, v1, b0, b1⟩, f0, f1, hR⟩ := hto.2.2 HLe.out; have HRt := Lib.hid hR; clear hrun2 hto hR)
      | (at_builtin; refine wpList_append_run _ rfl (.tmp 47) (.tmp 49) _ rfl _ _ rfl rfl _ _ HR2.out ?_))
    go_ret
    exact ⟨rfl, HRt.out⟩
/-- Add. -/
theorem nAdd (s : ByteArray) (K0 : Nat → Prop) (v : Value) (ls : List Ln) (hs : s.size ≤ maxLen) (hll : ls.length ≤ 6000) (hv : LnsAt K0 w v ls) (hK0 : ∀ k, K0 k → k < w.heap.size) (hz : es.length ≤ 1000000) (h : RSt U K w x M es) :
    Calls Tryz.prog 27 #[.pointer (some ⟨x, 0, none⟩), .string s, v] w fun e w' => e = .returned (.int .i64 (adE M (eF es) s ls)) ∧
      RTo U K w w' x (dnM (lnsB ls && nameB s && decide ((adL M (eF es) s ls).length ≤ 2000)) M es s) (dnZ (lnsB ls && nameB s && decide ((adL M (eF es) s ls).length ≤ 2000)) M es s (.mac (adL M (eF es) s ls))) := by
  cases hx : lnsB ls
  · have e1 : adE M (eF es) s ls = 1 := by unfold adE chk; rw [hx]; rfl
    rw [e1]
    exact nAddBad s K0 v ls hv hK0 h hx
  · by_cases hc : hasB M s = true ∧ ∃ l0, eF es (getR M s) = .mac l0
    · obtain ⟨hh, l0, he⟩ := hc
      have hn : nameB s = true := hasB_name h.srt.2.2 hh
      have e1 : adL M (eF es) s ls = l0 ++ ls := by unfold adL; rw [if_pos hh, he]
      have e2 : adE M (eF es) s ls = if 2000 < (l0 ++ ls).length then 2 else 0 := by
        unfold adE chk putE fullB
        rw [hx, hn, e1, hh]
        rfl
      rw [e2, e1, hn]
      refine (nAddMac s K0 v ls l0 hs hll hv hK0 h hx hn hh he).mono fun e w' ⟨q1, q2⟩ => ⟨q1, ?_⟩
      unfold dnM dnZ ptM ptZ
      by_cases hb : 2000 < (l0 ++ ls).length
      · rw [if_pos hb] at q2
        rw [decide_eq_false (by omega : ¬ (l0 ++ ls).length ≤ 2000)]
        exact q2
      · rw [if_neg hb] at q2
        rw [decide_eq_true (by omega : (l0 ++ ls).length ≤ 2000), if_pos hh, if_pos hh]
        exact q2
    · have e1 : adL M (eF es) s ls = ls := by
        unfold adL
        cases hh : hasB M s
        · rfl
        · cases he : eF es (getR M s) with
          | mac l0 => exact absurd ⟨hh, l0, he⟩ hc
          | str t0 => rfl
      rw [ad_mc e1, e1, ← hx]
      refine nAddNo s K0 v ls hs hll hv hK0 hz h hx ?_
      cases hh : hasB M s
      · exact .inr (.inl rfl)
      · cases he : eF es (getR M s) with
        | mac l0 => exact absurd ⟨hh, l0, he⟩ hc
        | str t0 => exact .inr (.inr ⟨rfl, t0, rfl⟩)
end
end Go.Proofs.YtbedddgfijpbcaaGreat
