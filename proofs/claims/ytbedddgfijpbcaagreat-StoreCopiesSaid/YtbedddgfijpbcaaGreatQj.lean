/- Walks: an entry's length, places, and what is kept of it. -/
import Derived.Test.YtbedddgfijpbcaaGreatQi
namespace Go.Proofs.YtbedddgfijpbcaaGreat
open Go.RowKit Go.Maps Go.WideMaps

section
variable {U F : Nat → Prop} {R : Nat → Option Nat} {w : World} {g bm : Nat} {L : List Ent} {E : Nat → En} {r : Option Nat} {en : En}
theorem EnAt.small {e : Nat} (h : EnAt r F w e en) : en.size ≤ 2000 := by
  obtain ⟨k, t, v, _, hv⟩ := h
  cases en with
  | str s => exact hv.2.2.2.1
  | mac ls => exact hv.2.2.2
/-- length. -/
theorem cLen (e : Nat) (h : EnAt r F w e en) :
    Calls Tryz.prog 49 #[.pointer (some ⟨e, 0, none⟩)] w fun x w' => x = .returned (.int .i64 (en.size : Nat)) ∧ w = w' := by
  have hz := h.small
  obtain ⟨k, t, v, hb, hv⟩ := h
  have k0 := hb.cell 0
  have k1 := hb.cell 1
  have k2 := hb.cell 2
  simp only [List.getElem?_toArray, List.getElem?_cons_zero, List.getElem?_cons_succ] at k0 k1 k2
  clear hb
  cases en with
  | str s =>
    obtain ⟨rfl, rfl, rfl, _⟩ := hv
    change t.size ≤ 2000 at hz
    show Calls _ _ _ _ fun x w' => x = .returned (.int .i64 (t.size : Nat)) ∧ w = w'
    go_enter Tryz.func49, Tryz.ntmps49
    go_wp2_with fail
    go_ret
    exact ⟨rfl, rfl⟩
  | mac ls =>
    obtain ⟨rfl, rfl, ⟨A, cap, rfl, _⟩, _⟩ := hv
    change ls.length ≤ 2000 at hz
    show Calls _ _ _ _ fun x w' => x = .returned (.int .i64 (ls.length : Nat)) ∧ w = w'
    go_enter Tryz.func49, Tryz.ntmps49
    go_wp2_with fail
    go_ret
    exact ⟨rfl, rfl⟩
/-- A place, counted from the end if it is below 0. -/
def plI (n : Int) (z : Nat) : Int := if n < 0 then n + z else n
/-- place. -/
theorem cPlace (e : Nat) (n : Int) (hn : -9223372036854775808 ≤ n) (h : EnAt r F w e en) :
    Calls Tryz.prog 44 #[.pointer (some ⟨e, 0, none⟩), .int .i64 n] w fun x w' => x = .returned (.int .i64 (plI n en.size)) ∧ w = w' := by
  have HL := Lib.hid (cLen e h)
  have hz := h.small
  clear h
  generalize en.size = z at HL hz ⊢
  by_cases h0 : n < 0
  · have e1 : plI n z = n + z := if_pos h0
    rw [e1]
    have hw : IntKind.i64.wrap (n + (z : Int)) = n + (z : Int) := IntWalk.i64_in _ (by omega)
    clear e1
    go_enter Tryz.func44, Tryz.ntmps44
    go_wp2_with (go_at_call 49; refine HL.out.mono ?_; rintro e w1 ⟨rfl, rfl⟩)
    go_ret
    exact ⟨rfl, rfl⟩
  · have e1 : plI n z = n := if_neg h0
    rw [e1]
    clear e1
    go_enter Tryz.func44, Tryz.ntmps44
    go_wp2_with fail
    go_ret
    exact ⟨rfl, rfl⟩
/-- What is kept. -/
def kEnd (z : Nat) (b : Int) : Int := max 0 (min b (z - 1) + 1)
def kBeg (z : Nat) (a b : Int) : Int := max 0 (min a (kEnd z b))
def En.cut : En → Nat → Nat → En
  | .str t, a, b => .str (t.extract a b)
  | .mac ls, a, b => .mac ((ls.take b).drop a)
theorem cKeepS (e : Nat) (a b : Int) (hbl : -9223372036854775808 ≤ b) (t : ByteArray) (hz : t.size ≤ 2000) (hb : Blk w e 59 #[.int .i64 1, .string t, .slice none 0 0]) :
    Calls Tryz.prog 45 #[.pointer (some ⟨e, 0, none⟩), .int .i64 a, .int .i64 b] w fun x w' => x = .returned (.tuple #[]) ∧
      Blk w' e 59 #[.int .i64 1, .string (t.extract (kBeg t.size a b).toNat (kEnd t.size b).toNat), .slice none 0 0] ∧ Turn (· = e) w w' := by
  have k0 := hb.cell 0
  have k1 := hb.cell 1
  have f1 := hb.frozen 1
  simp only [List.getElem?_toArray, List.getElem?_cons_zero, List.getElem?_cons_succ] at k0 k1
  have HL := Lib.hid (cLen (en := .str t) (r := none) (F := fun _ => False) e ⟨1, t, _, hb, rfl, rfl, rfl, hz, rfl⟩)
  change Hid (Calls _ _ _ _ fun x w' => x = .returned (.int .i64 (t.size : Nat)) ∧ w = w') at HL
  have HB := Lib.hid hb
  clear hb
  have hw : wrap64 (min b ((t.size : Int) - 1) + 1) = min b ((t.size : Int) - 1) + 1 := by unfold wrap64; omega
  go_enter Tryz.func45, Tryz.ntmps45
  go_wp2_with (go_at_call 49; refine HL.out.mono ?_; rintro e w1 ⟨rfl, rfl⟩)
  go_end0
  exact ⟨rfl, blk_set HB.out _, turn_set _ _ _ _⟩
theorem cKeepM (e : Nat) (a b : Int) (hbl : -9223372036854775808 ≤ b) (A : Option Addr) (n c : Nat) (hn : n ≤ 2000) (hnc : n ≤ c) (hb : Blk w e 59 #[.int .i64 2, .string ⟨#[]⟩, .slice A n c])
    (hl : Calls Tryz.prog 49 #[.pointer (some ⟨e, 0, none⟩)] w fun x w' => x = .returned (.int .i64 (n : Nat)) ∧ w = w') :
    Calls Tryz.prog 45 #[.pointer (some ⟨e, 0, none⟩), .int .i64 a, .int .i64 b] w fun x w' => x = .returned (.tuple #[]) ∧
      (∃ A', Blk w' e 59 #[.int .i64 2, .string ⟨#[]⟩, .slice A' ((kEnd n b).toNat - (kBeg n a b).toNat) (c - (kBeg n a b).toNat)] ∧ (c ≠ (kBeg n a b).toNat → A' = A.map fun x => x.add ((kBeg n a b).toNat * 5))) ∧ Turn (· = e) w w' := by
  have k0 := hb.cell 0
  have k2 := hb.cell 2
  have f2 := hb.frozen 2
  simp only [List.getElem?_toArray, List.getElem?_cons_zero, List.getElem?_cons_succ] at k0 k2
  have HL := Lib.hid hl
  have HB := Lib.hid hb
  clear hb hl
  have hw : wrap64 (min b ((n : Int) - 1) + 1) = min b ((n : Int) - 1) + 1 := by unfold wrap64; omega
  go_enter Tryz.func45, Tryz.ntmps45
  go_wp2_with (go_at_call 49; refine HL.out.mono ?_; rintro e w1 ⟨rfl, rfl⟩)
  · go_end0
    refine ⟨rfl, ⟨A, ?_, fun h => absurd rfl h⟩, turn_set _ _ _ _⟩
    have h0 : (kBeg n a b).toNat - (kBeg n a b).toNat = 0 := Nat.sub_self _
    unfold kBeg kEnd at h0 ⊢
    rw [h0]
    exact blk_set HB.out _
  · go_end0
    exact ⟨rfl, ⟨_, blk_set HB.out _, fun _ => rfl⟩, turn_set _ _ _ _⟩
/-- What is left of an entry. -/
def En.kept (en : En) (a b : Int) : En := en.cut (kBeg en.size a b).toNat (kEnd en.size b).toNat
theorem extract_size (t : ByteArray) (a b : Nat) (h : b ≤ t.size) : (t.extract a b).size = b - a := by
  rw [ByteArray.size_extract]; omega
/-- keep. -/
theorem cKeep (e : Nat) (a b : Int) (hbl : -9223372036854775808 ≤ b) (h : EnAt r F w e en) (hu : ∀ i, r = some i → i ≠ e) (_hf : ¬ F e) :
    Calls Tryz.prog 45 #[.pointer (some ⟨e, 0, none⟩), .int .i64 a, .int .i64 b] w fun x w' => x = .returned (.tuple #[]) ∧ (∃ k t v r', Blk w' e 59 #[.int .i64 k, .string t, v] ∧ EnVal r' F w k t v (en.kept a b) ∧ (r' = none ∨ r' = r)) ∧ Turn (· = e) w w' := by
  have hl := cLen e h
  obtain ⟨k, t, v, hb, hv⟩ := h
  cases en with
  | str s =>
    obtain ⟨rfl, rfl, rfl, hz, rfl⟩ := hv
    refine (cKeepS e a b hbl t hz hb).mono fun x w' ⟨h1, h2, h3⟩ => ⟨h1, ⟨_, _, _, none, h2, ⟨rfl, rfl, rfl, ?_, rfl⟩, .inl rfl⟩, h3⟩
    have : (kEnd t.size b).toNat ≤ t.size := by unfold kEnd; omega
    show (t.extract (kBeg t.size a b).toNat (kEnd t.size b).toNat).size ≤ 2000
    rw [extract_size _ _ _ this]
    omega
  | mac ls =>
    obtain ⟨rfl, rfl, ho, hz⟩ := hv
    obtain ⟨A, cap, rfl, h1, h2, h3, h4⟩ := ho
    refine (cKeepM e a b hbl A ls.length cap hz h1 hb hl).mono fun x w' ⟨g1, ⟨A', g2, g3⟩, g4⟩ => ⟨g1, ?_, g4⟩
    have q1 : (kEnd ls.length b).toNat ≤ ls.length := by unfold kEnd; omega
    have q2 : (kBeg ls.length a b).toNat ≤ (kEnd ls.length b).toNat := by unfold kBeg; omega
    show ∃ k t v r', _ ∧ EnVal r' F w k t v (.mac ((ls.take (kEnd ls.length b).toNat).drop (kBeg ls.length a b).toNat)) ∧ _
    generalize (kEnd ls.length b).toNat = q at g2 q1 q2 ⊢
    generalize (kBeg ls.length a b).toNat = p at g2 g3 q2 ⊢
    have hlen : ((ls.take q).drop p).length = q - p := by rw [List.length_drop, List.length_take]; omega
    by_cases hc : cap = p
    · refine ⟨_, _, _, none, g2, ⟨rfl, rfl, ⟨A', cap - p, by rw [hlen], by omega, by omega, fun _ => rfl, fun h => absurd h (by omega)⟩, by omega⟩, .inl rfl⟩
    · refine ⟨_, _, _, r, g2, ⟨rfl, rfl, ⟨A', cap - p, by rw [hlen], by omega, by omega, fun h => absurd h (by omega), fun _ => ?_⟩, by omega⟩, .inr rfl⟩
      obtain ⟨g, off, cs, eA, er, hbl2, hs, hr⟩ := h4 (by omega)
      refine ⟨g, off + p * 5, cs, by rw [g3 hc, eA, Option.map_some, Addr.add_lit], er, hbl2, ?_, fun i l hi => ?_⟩
      · have : (cap - p) * 5 = cap * 5 - p * 5 := Nat.sub_mul ..
        have : p * 5 ≤ cap * 5 := Nat.mul_le_mul_right _ (by omega)
        omega
      · rw [List.getElem?_drop, List.getElem?_take] at hi
        split at hi
        · have := hr (p + i) l hi
          rwa [show off + (p + i) * 5 = off + p * 5 + i * 5 by omega] at this
        · cases hi
/-- What changes the entry of a name. -/
def ToEnd (U F : Nat → Prop) (g bm : Nat) (w w' : World) (L : List Ent) (E : Nat → En) (e : Nat) (en : En) : Prop :=
  ∃ U' F' R', StAt U' F' R' w' g bm L (upd E e en) ∧ Turn U w w' ∧ (∀ i, U' i → U i ∨ w.heap.size ≤ i) ∧ (∀ i, F' i → F i ∨ w.heap.size ≤ i)
/-- keep, of the entry of a name. -/
theorem StAt.kept {w' : World} (h : StAt U F R w g bm L E) {s : ByteArray} (hh : hasB L s = true) {en' : En} {k : Int} {t : ByteArray} {v : Value} {r' : Option Nat} (hb : Blk w' (getR L s) 59 #[.int .i64 k, .string t, v]) (hv : EnVal r' F w k t v en')
    (hr : r' = none ∨ r' = R (getR L s)) (hT : Turn (· = getR L s) w w') : ToEnd U F g bm w w' L E (getR L s) en' := by
  have hm := mem_get hh
  have hu : U (getR L s) := h.ue _ hm
  have hen : EnAt (R (getR L s)) F w (getR L s) (E (getR L s)) := h.ent _ hm
  have hrow : ∀ p ∈ L, ∀ i, R p.2 = some i → i ≠ getR L s := fun p hp i hi e2 => by
    obtain ⟨cs, hcs⟩ := (h.ent p hp).row hi
    obtain ⟨k0, t0, v0, hb0, _⟩ := hen
    exact blk_ne hcs hb0 (by decide) e2
  have hr2 : ∀ i, r' = some i → R (getR L s) = some i := fun i hi => by
    rcases hr with h | h
    · rw [h] at hi; cases hi
    · rw [← h]; exact hi
  refine ⟨U, F, upd R (getR L s) r', ?_, hT.mono (fun i e => by rw [e]; exact hu), fun i hi => .inl hi, fun i hi => .inl hi⟩
  have hge : g ≠ getR L s := fun e => h.ug (e ▸ hu)
  have hbe : bm ≠ getR L s := fun e => by
    obtain ⟨k0, t0, v0, hb0, _⟩ := hen
    exact map_ne_cells hb0 h.own e.symm
  have hfe : ∀ i, F i → i ≠ getR L s := fun i hi e => h.uf _ hu (e ▸ hi)
  refine ⟨hT.blk h.blk hge, ownsMap_turn h.own hT hbe, h.srt, h.len, h.good, h.ubm, h.ug, h.uf, fun i hi => Nat.lt_of_lt_of_le (h.ul i hi) hT.size, fun i hi => Nat.lt_of_lt_of_le (h.fl i hi) hT.size, ?_, h.ue, ?_, ?_⟩
  · intro p hp
    by_cases e1 : p.2 = getR L s
    · rw [e1, upd_at, upd_at]
      refine ⟨k, t, v, hb, hv.stay (Kept.of_turn hT (fun i hi => ?_)) (fun _ h => h)⟩
      rcases hi with hi | hi
      · exact hrow _ hm i (hr2 i hi)
      · exact hfe i hi
    · rw [upd_ne e1, upd_ne e1]
      refine (h.ent p hp).stay (Kept.of_turn hT (fun i hi => ?_)) (fun _ h => h)
      rcases hi with rfl | hi | hi
      · exact e1
      · exact hrow p hp i hi
      · exact hfe i hi
  · intro p hp i hi
    by_cases e1 : p.2 = getR L s
    · rw [e1, upd_at] at hi
      exact h.ur _ hm i (hr2 i hi)
    · rw [upd_ne e1] at hi
      exact h.ur p hp i hi
  · intro p hp q hq i h1 h2
    by_cases e1 : p.2 = getR L s
    · by_cases e2 : q.2 = getR L s
      · rw [e1, e2]
      · rw [e1, upd_at] at h1
        rw [upd_ne e2] at h2
        exact e1.trans (h.sep _ hm q hq i (hr2 i h1) h2)
    · rw [upd_ne e1] at h1
      by_cases e2 : q.2 = getR L s
      · rw [e2, upd_at] at h2
        exact (h.sep p hp _ hm i h1 (hr2 i h2)).trans e2.symm
      · rw [upd_ne e2] at h2
        exact h.sep p hp q hq i h1 h2
/-- What Part leaves. -/
def ptE (en : En) (a b : Int) : En := en.kept (min (plI a en.size) (plI b en.size)) (max (plI a en.size) (plI b en.size))
/-- Part. -/
theorem cPart (s : ByteArray) (hs : s.size ≤ maxLen) (a b : Int) (ha : -9223372036854775808 ≤ a) (hbl : -9223372036854775808 ≤ b) (h : StAt U F R w g bm L E) :
    Calls Tryz.prog 15 #[.pointer (some ⟨g, 0, none⟩), .string s, .int .i64 a, .int .i64 b] w fun x w' => x = .returned (.int .i64 (fdE L s)) ∧
      (hasB L s = false → w = w') ∧ (hasB L s = true → ToEnd U F g bm w w' L E (getR L s) (ptE (E (getR L s)) a b)) := by
  have HF := Lib.hid (cFind s hs h)
  unfold fdV at HF
  cases hh : hasB L s
  · have e1 : fdE L s = 6 := by unfold fdE; rw [hh]; rfl
    rw [e1] at HF ⊢
    rw [lk_no hh] at HF
    clear e1 hh h
    go_enter Tryz.func15, Tryz.ntmps15
    go_wp2_with (go_at_call 43; refine HF.out.mono ?_; rintro e w1 ⟨rfl, rfl⟩)
    go_ret
    exact ⟨rfl, fun _ => rfl, fun h => by cases h⟩
  · have e1 : fdE L s = 0 := by unfold fdE; rw [hh]; rfl
    rw [e1] at HF ⊢
    rw [lk_has hh] at HF
    have hm := mem_get hh
    have hu : U (getR L s) := h.ue _ hm
    have hen : EnAt (R (getR L s)) F w (getR L s) (E (getR L s)) := h.ent _ hm
    have hsm := hen.small
    have HPa := Lib.hid (cPlace _ a ha hen)
    have HPb := Lib.hid (cPlace _ b hbl hen)
    have hK := cKeep (getR L s) (min (plI a (E (getR L s)).size) (plI b (E (getR L s)).size)) (max (plI a (E (getR L s)).size) (plI b (E (getR L s)).size)) (by unfold plI; omega) hen (fun i hi e2 => by
      obtain ⟨cs, hcs⟩ := hen.row hi
      obtain ⟨k0, t0, v0, hb0, _⟩ := hen
      exact blk_ne hcs hb0 (by decide) e2) (h.uf _ hu)
    have HK := Lib.hid (hK.mono fun x w' ⟨g1, ⟨k, t, v, r', g2, g3, g4⟩, g5⟩ => (⟨g1, h.kept hh g2 g3 g4 g5⟩ : x = Ending.returned (.tuple #[]) ∧ ToEnd U F g bm w w' L E (getR L s) (ptE (E (getR L s)) a b)))
    clear e1 hh h hm hen hK hu hsm
    generalize plI a (E (getR L s)).size = pa at HPa HK
    generalize plI b (E (getR L s)).size = pb at HPb HK
    generalize ptE (E (getR L s)) a b = en at HK ⊢
    generalize getR L s = e at HF HPa HPb HK ⊢
    go_enter Tryz.func15, Tryz.ntmps15
    go_wp2_with (first
      | (go_at_call 43; refine HF.out.mono ?_; rintro e w1 ⟨rfl, rfl⟩)
      | (go_at_call 44; with_reducible refine HPa.out.mono ?_; rintro e w1 ⟨rfl, rfl⟩)
      | (go_at_call 44; with_reducible refine HPb.out.mono ?_; rintro e w1 ⟨rfl, rfl⟩)
      | (go_at_call 45; refine HK.out.mono ?_; rintro e w1 ⟨rfl, hk⟩))
    go_ret
    exact ⟨rfl, fun h => (by cases h), fun _ => hk⟩
end
end Go.Proofs.YtbedddgfijpbcaaGreat
