/- Walk: Add. -/
import Derived.Test.YtbedddgfijpbcaaGreatQv
import Derived.Deep.RegionLaw
namespace Go.Proofs.YtbedddgfijpbcaaGreat
open Go.RowKit Go.Maps Go.WideMaps

section
variable {U F : Nat → Prop} {R : Nat → Option Nat} {w w' : World} {g bm : Nat} {L : List Ent} {E : Nat → En}
/-- The entry of a name is written anew, its row too. -/
theorem StAt.turned (h : StAt U F R w g bm L E) {e : Nat} (he : ∃ p ∈ L, p.2 = e) {en : En} {k : Int} {t : ByteArray} {v : Value} {r' : Option Nat} (hT : Turn (fun i => i = e ∨ R e = some i) w w') (hb : Blk w' e 59 #[.int .i64 k, .string t, v])
    (hv : EnVal r' F w' k t v en) (hr : ∀ i, r' = some i → (R e = some i ∨ w.heap.size ≤ i) ∧ i < w'.heap.size ∧ ¬ F i) : StAt (fun i => U i ∨ r' = some i) F (upd R e r') w' g bm L (upd E e en) := by
  obtain ⟨hen, hu, hur, hsep⟩ := h.lead he
  have hen' := hen
  obtain ⟨k0, t0, v0, hb0, hv0⟩ := hen
  have hge : ¬ (g = e ∨ R e = some g) := by
    rintro (rfl | h1)
    · exact h.ug hu
    · exact h.ug (hur _ h1)
  have hbe : ¬ (bm = e ∨ R e = some bm) := by
    rintro (h1 | h1)
    · exact map_ne_cells hb0 h.own h1.symm
    · obtain ⟨cs, hcs⟩ := hen'.row h1
      exact map_ne_cells hcs h.own rfl
  have hfe : ∀ i, F i → ¬ (i = e ∨ R e = some i) := by
    rintro i hi (rfl | h1)
    · exact h.uf _ hu hi
    · exact h.uf _ (hur _ h1) hi
  refine ⟨hT.blk h.blk hge, ownsMap_turn h.own hT hbe, h.srt, h.len, h.good, .inl h.ubm, ?_, ?_, ?_, fun i hi => Nat.lt_of_lt_of_le (h.fl i hi) hT.size, ?_, fun p hp => .inl (h.ue p hp), ?_, ?_⟩
  · rintro (h1 | h1)
    · exact h.ug h1
    · rcases (hr g h1).1 with h2 | h2
      · exact h.ug (hur _ h2)
      · have := h.blk.lt; omega
  · rintro i (h1 | h1)
    · exact h.uf i h1
    · exact (hr i h1).2.2
  · rintro i (h1 | h1)
    · exact Nat.lt_of_lt_of_le (h.ul i h1) hT.size
    · exact (hr i h1).2.1
  · intro p hp
    by_cases e1 : p.2 = e
    · rw [e1, upd_at, upd_at]
      exact ⟨k, t, v, hb, hv⟩
    · rw [upd_ne e1, upd_ne e1]
      have hp' := h.ent p hp
      refine hp'.stay (Kept.of_turn hT (fun i hi => ?_)) (fun _ h => h)
      rcases hi with rfl | hi | hi
      · rintro (h1 | h1)
        · exact e1 h1
        · obtain ⟨cs, hcs⟩ := hen'.row h1
          obtain ⟨k1, t1, v1, hb1, _⟩ := hp'
          exact blk_ne hcs hb1 (by decide) rfl
      · rintro (h1 | h1)
        · obtain ⟨cs, hcs⟩ := hp'.row hi
          exact blk_ne hcs hb0 (by decide) h1
        · exact e1 (hsep p hp i hi h1)
      · exact hfe i hi
  · intro p hp i hi
    by_cases e1 : p.2 = e
    · rw [e1, upd_at] at hi; exact .inr hi
    · rw [upd_ne e1] at hi; exact .inl (h.ur p hp i hi)
  · intro p hp q hq i h1 h2
    by_cases e1 : p.2 = e
    · by_cases e2 : q.2 = e
      · rw [e1, e2]
      · rw [e1, upd_at] at h1
        rw [upd_ne e2] at h2
        rcases (hr i h1).1 with h3 | h3
        · exact e1.trans (hsep q hq i h2 h3).symm
        · have := h.ul i (h.ur q hq i h2); omega
    · rw [upd_ne e1] at h1
      by_cases e2 : q.2 = e
      · rw [e2, upd_at] at h2
        rcases (hr i h2).1 with h3 | h3
        · exact (hsep p hp i h1 h3).trans e2.symm
        · have := h.ul i (h.ur p hp i h1); omega
      · rw [upd_ne e2] at h2
        exact h.sep p hp q hq i h1 h2
theorem PutTo.from_ {w1 : World} {s : ByteArray} {en : En} (hb : Below w.heap.size w w1) (h : PutTo U F g bm w1 w' L E s en) : PutTo U F g bm w w' L E s en := by
  obtain ⟨e', U', F', R', h1, h2, h3, h4, h5, h6⟩ := h
  refine ⟨e', U', F', R', h1, (Turn.of_below hb : Turn U w w1).trans h2 (fun _ _ h => h), fun i hi => ?_, fun i hi => ?_, h5, fun hh => Nat.le_trans hb.size (h6 hh)⟩
  · rcases h3 i hi with h | h
    · exact .inl h
    · exact .inr (Nat.le_trans hb.size h)
  · rcases h4 i hi with h | h
    · exact .inl h
    · exact .inr (Nat.le_trans hb.size h)
theorem PutEnd.from_ {w1 : World} {pe : Int} {s : ByteArray} {en : En} (hb : Below w.heap.size w w1) (h : PutEnd pe U F g bm w1 w' L E s en) : PutEnd pe U F g bm w w' L E s en :=
  ⟨fun h1 => ntrans hb (h.1 h1), fun h1 => (h.2 h1).from_ hb⟩
/-- The lines that Add puts. -/
def adL (L : List Ent) (E : Nat → En) (s : ByteArray) (ls : List Ln) : List Ln := if hasB L s then (match E (getR L s) with | .str _ => ls | .mac l0 => l0 ++ ls) else ls
/-- What Add answers. -/
def adE (L : List Ent) (E : Nat → En) (s : ByteArray) (ls : List Ln) : Int := if chk (lnsB ls) s = 0 then (if 2000 < (adL L E s ls).length then 2 else putE L s) else chk (lnsB ls) s
/-- What is left where the lines are appended in place. -/
theorem StAt.added {w1 w2 w3 : World} {s : ByteArray} {l0 ls : List Ln} {v0 : Value} (h : StAt U F R w g bm L E) (hh : hasB L s = true) (_he : E (getR L s) = .mac l0) (hb1 : Below w.heap.size w w1) (hb2 : Below w1.heap.size w1 w2)
    (h0 : Blk w2 (getR L s) 59 #[.int .i64 2, .string ⟨#[]⟩, v0]) {r3 : Option Nat} {F2 : Nat → Prop} {v3 : Value} (hF2 : ∀ k, F2 k → w1.heap.size ≤ k ∧ k < w2.heap.size)
    (ho : OwnLns r3 (fun i => F i ∨ F2 i) w3 v3 (l0 ++ ls)) (hT : Turn (fun i => R (getR L s) = some i) w2 w3) (hr : ∀ i, r3 = some i → (R (getR L s) = some i ∨ w2.heap.size ≤ i) ∧ i < w3.heap.size ∧ ¬ (F i ∨ F2 i)) (hz : (l0 ++ ls).length ≤ 2000) :
    PutTo U F g bm w (w3.setCell ⟨getR L s, 2, none⟩ v3) L E s (.mac (l0 ++ ls)) := by
  have hb := ntrans hb1 hb2
  have hst2 := h.below hb
  have hsz := hb1.size
  have hst : StAt U (fun i => F i ∨ F2 i) R w2 g bm L E := hst2.wide (fun _ h => h) (fun _ h => .inl h) hst2.ug (by
    rintro i hi (h4 | h4)
    · exact h.uf i hi h4
    · have := h.ul i hi
      have := (hF2 i h4).1
      omega) hst2.ul (by
    rintro i (h4 | h4)
    · exact hst2.fl i h4
    · exact (hF2 i h4).2)
  have hmem : ∃ p ∈ L, p.2 = getR L s := ⟨_, mem_get hh, rfl⟩
  have hld := hst.lead hmem
  have hue : U (getR L s) := hld.2.1
  have hre : ∀ i, R (getR L s) = some i → i ≠ getR L s := fun i hi e => by
    obtain ⟨cs, hcs⟩ := hld.1.row hi
    exact blk_ne hcs h0 (by decide) e
  have h03 : Blk w3 (getR L s) 59 #[.int .i64 2, .string ⟨#[]⟩, v0] := hT.blk h0 (fun e => hre _ e rfl)
  have hTs := turn_set w3 (getR L s) 2 v3
  have hT4 : Turn (fun i => i = getR L s ∨ R (getR L s) = some i) w2 (w3.setCell ⟨getR L s, 2, none⟩ v3) := (hT.mono (fun i h => .inr h)).trans hTs (fun i _ e => .inl e)
  have hr3e : ∀ i, r3 = some i → i ≠ getR L s := fun i hi e => by
    rcases (hr i hi).1 with h1 | h1
    · exact hre i h1 e
    · have := h0.lt
      omega
  have hv4 : EnVal r3 (fun i => F i ∨ F2 i) (w3.setCell ⟨getR L s, 2, none⟩ v3) 2 ⟨#[]⟩ v3 (.mac (l0 ++ ls)) := ⟨rfl, rfl, ho.stay (Kept.of_turn hTs (fun i hi => by
    rcases hi with hi | hi
    · exact hr3e i hi
    · exact fun e => hst.uf _ hue (e ▸ hi))) (fun _ h => h), hz⟩
  have hfin := hst.turned hmem hT4 (blk_set h03 v3) hv4 (fun i hi => ⟨(hr i hi).1, Nat.lt_of_lt_of_le (hr i hi).2.1 hTs.size, (hr i hi).2.2⟩)
  refine ⟨getR L s, _, _, _, by rw [put_same hh]; exact hfin, (Turn.of_below hb : Turn U w w2).trans hT4 (fun i _ e => ?_), fun i hi => ?_, fun i hi => ?_, fun _ => rfl, fun e => by rw [hh] at e; cases e⟩
  · rcases e with e | e
    · rw [e]; exact hue
    · exact hld.2.2.1 i e
  · rcases hi with hi | hi
    · exact .inl hi
    · rcases (hr i hi).1 with h1 | h1
      · exact .inl (hld.2.2.1 i h1)
      · exact .inr (Nat.le_trans hb.size h1)
  · rcases hi with hi | hi
    · exact .inl hi
    · exact .inr (Nat.le_trans hsz (hF2 i hi).1)
set_option maxHeartbeats 1000000 in
set_option maxRecDepth 100000 in
/-- Add, onto lines that are there, where there is room. -/
theorem cAddRoom (s : ByteArray) (K : Nat → Prop) (v : Value) (ls l0 : List Ln) (hs : s.size ≤ maxLen) (h : StAt U F R w g bm L E) (hv : LnsAt K w v ls) (hK : ∀ k, K k → k < w.heap.size) (h1 : lnsB ls = true) (h2 : nameB s = true) (hh : hasB L s = true) (he : E (getR L s) = .mac l0) (hz : (l0 ++ ls).length ≤ 2000) :
    Calls Tryz.prog 19 #[.pointer (some ⟨g, 0, none⟩), .string s, v] w fun e w' => e = .returned (.int .i64 0) ∧ PutTo U F g bm w w' L E s (.mac (l0 ++ ls)) := by
  have HV := Lib.hid (cLns K v ls w hv hK)
  rw [h1] at HV
  have HC := Lib.hid (fun (w1 : World) (hb : Below w.heap.size w w1) => cCheck true s hs g bm w1 (h.below hb).c0)
  rw [show chk true s = 0 by unfold chk; rw [h2]; rfl] at HC
  obtain ⟨v0, hb0, ho0, hz0⟩ := h.mac hh he
  obtain ⟨A0, c0, rfl, ha1, ha2, ha3, ha4⟩ := id ho0
  have HCp := Lib.hid (fun (w1 : World) (hb : Below w.heap.size w w1) => cCopyL K v ls w1 (hv.stay (Kept.of_below hb hK) (fun _ h => h)) (fun k hk => Nat.lt_of_lt_of_le (hK k hk) hb.size) (by rw [List.length_append] at hz; omega))
  have HL := Lib.hid (lk_has hh)
  have HH := Lib.hid hh
  have hcell := fun (w1 : World) (hb : Below w.heap.size w w1) => (h.below hb).c0
  have hown := fun (w1 : World) (hb : Below w.heap.size w w1) => (h.below hb).own
  have HCell := Lib.hid hcell
  have HOwn := Lib.hid hown
  have HS := Lib.hid h.srt
  have hent := fun (w1 : World) (hb : Below w.heap.size w w1) => (show Blk w1 (getR L s) 59 #[.int .i64 2, .string ⟨#[]⟩, .slice A0 l0.length c0] from (hb.block _ hb0.lt).trans hb0)
  have HEnt := Lib.hid hent
  have hlen := hz
  rw [List.length_append] at hlen
  obtain ⟨Av, cv, rfl, hn1, hn2, _⟩ := hv
  have hsumI : ¬ (2000 : Int) < ((l0.length : Nat) : Int) + ((ls.length : Nat) : Int) := by omega
  have HFin : Hid (∀ (w1 w2 : World) (ty : TypeId) (v2 : Value), Below w.heap.size w w1 → Below w1.heap.size w1 w2 → CopyAt w1 w2 v2 ls → ∃ A' c' w3, (Builtin.append_ #[31, 31] ty #[.slice A0 l0.length c0, v2]).run Tryz.prog w2 = .ok (.slice A' (l0.length + ls.length) c') w3 ∧
      w3.cell? ⟨getR L s, 2, none⟩ = some (.slice A0 l0.length c0) ∧ w3.frozen? ⟨getR L s, 2, none⟩ = false ∧ PutTo U F g bm w (w3.setCell ⟨getR L s, 2, none⟩ (.slice A' (l0.length + ls.length) c')) L E s (.mac (l0 ++ ls))) := Lib.hid (fun w1 w2 ty v2 hb1 hb2 hc => by
    obtain ⟨r2, F2, ho2, hF2, _⟩ := hc
    have hb := ntrans hb1 hb2
    have hsz := hb1.size
    have hst2 := h.below hb
    have hmem : ∃ p ∈ L, p.2 = getR L s := ⟨_, mem_get hh, rfl⟩
    have hld := h.lead hmem
    have hld2 := hst2.lead hmem
    have ho0' : OwnLns (R (getR L s)) F w2 (.slice A0 l0.length c0) l0 := ho0.stay (Kept.of_all hb) (fun _ h => h)
    obtain ⟨A', c', w3, r3, q1, q2, q3, q4⟩ := runApp w2 ty ho0' ho2 (by omega) (fun i hi => ⟨h.uf i (hld.2.2.1 i hi), fun h4 => by
      have := h.ul i (hld.2.2.1 i hi)
      have := (hF2 i h4).1
      omega⟩) (by
      rintro i (h4 | h4)
      · exact hst2.fl i h4
      · exact (hF2 i h4).2)
    have hbw2 := HEnt.out w2 hb
    have hbw3 : Blk w3 (getR L s) 59 #[.int .i64 2, .string ⟨#[]⟩, .slice A0 l0.length c0] := q3.blk hbw2 (fun e => by
      obtain ⟨cs, hcs⟩ := hld2.1.row e
      exact blk_ne hcs hbw2 (by decide) rfl)
    exact ⟨A', c', w3, q1, hbw3.cell 2, hbw3.frozen 2, h.added hh he hb1 hb2 hbw2 hF2 q2 q3 q4 hz⟩)
  clear hent hcell hown h hb0 ho0 ha1 ha2 ha3 ha4 he hh h1 h2 hK
  generalize getR L s = e at *
  go_enter Tryz.func19, Tryz.ntmps19
  go_wp2_with (first
    | (go_at_call 46; refine HV.out.mono ?_; rintro e w1 ⟨rfl, hb1⟩; have cs1 := HCell.out _ hb1; have own1 := HOwn.out _ hb1; have he1 := HEnt.out _ hb1; have k0 := he1.cell 0; have k2 := he1.cell 2; clear he1; simp only [List.getElem?_toArray, List.getElem?_cons_zero, List.getElem?_cons_succ] at k0 k2)
    | (go_at_call 40; refine (HC.out _ hb1).mono ?_; rintro e w1' ⟨rfl, rfl⟩)
    | (at_lookup; refine wpList_look _ rfl _ _ rfl bm L.length L rfl own1 HS.out s hs rfl ?_; rw [HH.out, HL.out]))
  have HB1 := Lib.hid hb1
  go_region_law
    (first
      | (go_simp; go_at_call 37; refine (HCp.out _ (ntrans HB1.out ((Below.refl _ _).drew))).mono ?_; rintro x w2 ⟨A2, c2, rfl, hcp, hb2⟩; have hbx : Below w1.heap.size w1 w2 := ((Below.refl w1.heap.size w1).drew).trans hb2; have hx2 : w2.cell? ⟨e, 2, none⟩ = some (.slice A0 l0.length c0) := (HEnt.out w2 (ntrans HB1.out hbx)).cell 2; obtain ⟨A3, c3, w3, qrun, qc, qf, qp⟩ := HFin.out w1 w2 31 (.slice A2 ls.length c2) HB1.out hbx hcp)
      | (refine step_run rfl (.tmp 53) (.tmp 55) _ rfl _ _ rfl rfl _ _ qrun ?_))
  all_goals
    have HQ := Lib.hid qp
    clear qp
    go_wp2
    go_ret
    exact ⟨rfl, HQ.out⟩
set_option maxHeartbeats 1000000 in
/-- Add. -/
theorem cAdd (s : ByteArray) (K : Nat → Prop) (v : Value) (ls : List Ln) (hll : ls.length ≤ 10000000000000) (hs : s.size ≤ maxLen) (h : StAt U F R w g bm L E) (hv : LnsAt K w v ls) (hK : ∀ k, K k → k < w.heap.size) :
    Calls Tryz.prog 19 #[.pointer (some ⟨g, 0, none⟩), .string s, v] w fun e w' => e = .returned (.int .i64 (adE L E s ls)) ∧ PutEnd (adE L E s ls) U F g bm w w' L E s (.mac (adL L E s ls)) := by
  have HV := Lib.hid (cLns K v ls w hv hK)
  have HC := Lib.hid (fun (w1 : World) (hb : Below w.heap.size w w1) => cCheck (lnsB ls) s hs g bm w1 (h.below hb).c0)
  by_cases hc : chk (lnsB ls) s = 0
  · obtain ⟨h1, h2⟩ := chk_0 hc
    have HCell := Lib.hid (fun (w1 : World) (hb : Below w.heap.size w w1) => (h.below hb).c0)
    have HOwn := Lib.hid (fun (w1 : World) (hb : Below w.heap.size w w1) => (h.below hb).own)
    have HS := Lib.hid h.srt
    have hmcE : adL L E s ls = ls → adE L E s ls = mcE L s ls := fun e => by
      unfold adE mcE
      rw [e]
    have HM := Lib.hid (fun (w1 : World) (hb : Below w.heap.size w w1) => ((cMacro s K v ls hs (h.below hb) (hv.stay (Kept.of_below hb hK) (fun _ h => h)) (fun k hk => Nat.lt_of_lt_of_le (hK k hk) hb.size)).mono fun x w' ⟨q1, q2⟩ => (⟨q1, PutEnd.from_ hb q2⟩ : x = Ending.returned (.int .i64 (mcE L s ls)) ∧ PutEnd (mcE L s ls) U F g bm w w' L E s (.mac ls))))
    have hc' := hc
    rw [hc] at HC
    rw [h1] at HV HC
    cases hh : hasB L s
    · have e2 : adL L E s ls = ls := by unfold adL; rw [hh]; rfl
      rw [hmcE e2, e2]
      have HL := Lib.hid (lk_no hh)
      have HH := Lib.hid hh
      obtain ⟨Av, cv, rfl, hn1, hn2, _⟩ := hv
      clear hmcE e2 hh h hc h1 h2 hK hc'
      generalize mcE L s ls = pe at HM ⊢
      go_enter Tryz.func19, Tryz.ntmps19
      go_wp2_with (first
        | (go_at_call 46; refine HV.out.mono ?_; rintro e w1 ⟨rfl, hb1⟩; have cs1 := HCell.out _ hb1; have own1 := HOwn.out _ hb1)
        | (go_at_call 40; refine (HC.out _ hb1).mono ?_; rintro e w1' ⟨rfl, rfl⟩)
        | (at_lookup; refine wpList_look _ rfl _ _ rfl bm L.length L rfl own1 HS.out s hs rfl ?_; rw [HH.out, HL.out])
        | (go_at_call 18; refine (HM.out _ hb1).mono ?_; rintro e w2 ⟨rfl, hp⟩))
      go_ret
      exact ⟨rfl, hp⟩
    · cases he : E (getR L s) with
      | str t0 =>
        obtain ⟨hb0, _⟩ := h.str hh he
        have e2 : adL L E s ls = ls := by unfold adL; rw [hh, he]; rfl
        rw [hmcE e2, e2]
        have HL := Lib.hid (lk_has hh)
        have HH := Lib.hid hh
        have HEnt := Lib.hid (fun (w1 : World) (hb : Below w.heap.size w w1) => (show Blk w1 (getR L s) 59 #[.int .i64 1, .string t0, .slice none 0 0] from (hb.block _ hb0.lt).trans hb0))
        obtain ⟨Av, cv, rfl, hn1, hn2, _⟩ := hv
        clear hmcE e2 hh h hc h1 h2 hK hc' he hb0
        generalize mcE L s ls = pe at HM ⊢
        generalize getR L s = e at HL HEnt
        go_enter Tryz.func19, Tryz.ntmps19
        go_wp2_with (first
          | (go_at_call 46; refine HV.out.mono ?_; rintro x w1 ⟨rfl, hb1⟩; have cs1 := HCell.out _ hb1; have own1 := HOwn.out _ hb1; have he1 := HEnt.out _ hb1; have k0 := he1.cell 0; clear he1; simp only [List.getElem?_toArray, List.getElem?_cons_zero] at k0)
          | (go_at_call 40; refine (HC.out _ hb1).mono ?_; rintro x w1' ⟨rfl, rfl⟩)
          | (at_lookup; refine wpList_look _ rfl _ _ rfl bm L.length L rfl own1 HS.out s hs rfl ?_; rw [HH.out, HL.out])
          | (go_at_call 18; refine (HM.out _ hb1).mono ?_; rintro x w2 ⟨rfl, hp⟩))
        go_ret
        exact ⟨rfl, hp⟩
      | mac l0 =>
        have e2 : adL L E s ls = l0 ++ ls := by unfold adL; rw [hh, he]; rfl
        rw [e2]
        by_cases hz : (l0 ++ ls).length ≤ 2000
        · have e1 : adE L E s ls = 0 := by
            unfold adE putE fullB
            rw [if_pos hc', e2, if_neg (by omega), hh]; rfl
          rw [e1]
          exact (cAddRoom s K v ls l0 hs h hv hK h1 h2 hh he hz).mono fun x w' ⟨q1, q2⟩ => ⟨q1, fun h => absurd rfl h, fun _ => q2⟩
        · have e1 : adE L E s ls = 2 := by
            unfold adE
            rw [if_pos hc', e2, if_pos (by omega)]
          rw [e1]
          obtain ⟨v0, hb0, ho0, hz0⟩ := h.mac hh he
          obtain ⟨A0, c0, rfl, ha1, ha2, _⟩ := ho0
          have HL := Lib.hid (lk_has hh)
          have HH := Lib.hid hh
          have HEnt := Lib.hid (fun (w1 : World) (hb : Below w.heap.size w w1) => (show Blk w1 (getR L s) 59 #[.int .i64 2, .string ⟨#[]⟩, .slice A0 l0.length c0] from (hb.block _ hb0.lt).trans hb0))
          obtain ⟨Av, cv, rfl, hn1, hn2, _⟩ := hv
          rw [List.length_append] at hz
          have hsum : (2000 : Int) < ((l0.length : Nat) : Int) + ((ls.length : Nat) : Int) := by omega
          clear hmcE e1 e2 hh h hc h1 h2 hK hc' he hb0 HM
          generalize getR L s = e at HL HEnt
          go_enter Tryz.func19, Tryz.ntmps19
          go_wp2_with (first
            | (go_at_call 46; refine HV.out.mono ?_; rintro x w1 ⟨rfl, hb1⟩; have cs1 := HCell.out _ hb1; have own1 := HOwn.out _ hb1; have he1 := HEnt.out _ hb1; have k0 := he1.cell 0; have k2 := he1.cell 2; clear he1; simp only [List.getElem?_toArray, List.getElem?_cons_zero, List.getElem?_cons_succ] at k0 k2)
            | (go_at_call 40; refine (HC.out _ hb1).mono ?_; rintro x w1' ⟨rfl, rfl⟩)
            | (at_lookup; refine wpList_look _ rfl _ _ rfl bm L.length L rfl own1 HS.out s hs rfl ?_; rw [HH.out, HL.out]))
          go_ret
          exact ⟨rfl, fun _ => hb1, fun h => by cases h⟩
  · have e1 : adE L E s ls = chk (lnsB ls) s := by unfold adE; rw [if_neg hc]
    rw [e1]
    clear e1 h hv hK
    generalize adL L E s ls = l2
    generalize lnsB ls = b at HV HC hc ⊢
    generalize chk b s = c at HC hc ⊢
    have hB : (c != 0) = true := by simpa using hc
    go_enter Tryz.func19, Tryz.ntmps19
    go_wp2_with (first
      | (go_at_call 46; refine HV.out.mono ?_; rintro e w1 ⟨rfl, hb1⟩)
      | (go_at_call 40; refine (HC.out _ hb1).mono ?_; rintro e w1' ⟨rfl, rfl⟩))
    go_ret
    exact ⟨rfl, fun _ => hb1, fun h => absurd h hc⟩
end
end Go.Proofs.YtbedddgfijpbcaaGreat
