/- Walks: Macro, Lines, Kind, Length, Chop. -/
import Derived.Test.YtbedddgfijpbcaaGreatQq
namespace Go.Proofs.YtbedddgfijpbcaaGreat
open Go.RowKit Go.Maps Go.WideMaps

section
variable {U F : Nat → Prop} {R : Nat → Option Nat} {w : World} {g bm : Nat} {L : List Ent} {E : Nat → En}
theorem OwnLns.rd {r : Option Nat} {F K : Nat → Prop} {w : World} {v : Value} {ls : List Ln} (h : OwnLns r F w v ls) (hr : ∀ i, r = some i → K i) (hF : ∀ i, F i → K i) : LnsAt K w v ls := by
  obtain ⟨A, cap, e, h1, h2, h3, h4⟩ := h
  refine ⟨A, cap, e, h1, h2, fun h0 => ?_⟩
  obtain ⟨g, off, cs, eA, er, hb, hs, hl⟩ := h4 (by omega)
  refine ⟨g, off, eA, hr g er, fun i l hi => ?_⟩
  exact (hl i l hi).moved (fun _ _ => rfl) (fun _ _ _ => rfl) hF
theorem Put0.to_ {r : Option Nat} {Fx : Nat → Prop} {w2 w' : World} {s : ByteArray} {en : En} (h : Put0 r U Fx g bm w2 w' L E s en) (hb : Below w.heap.size w w2) (hr : ∀ i, r = some i → w.heap.size ≤ i) (hF : ∀ i, Fx i → F i ∨ w.heap.size ≤ i) : PutTo U F g bm w w' L E s en := by
  obtain ⟨e', U', R', h1, h2, h3, h4, h5⟩ := h
  refine ⟨e', U', Fx, R', h1, (Turn.of_below hb : Turn U w w2).trans h2 (fun _ _ h => h), fun i hi => ?_, hF, h4, fun hh => Nat.le_trans hb.size (h5 hh)⟩
  rcases h3 i hi with h | h | h
  · exact .inl h
  · exact .inr (hr i h)
  · exact .inr (Nat.le_trans hb.size h)
/-- put, of a copy of lines. -/
theorem cPutM (s : ByteArray) (v : Value) (ls : List Ln) (hs : s.size ≤ maxLen) (w1 w2 : World) (h : StAt U F R w g bm L E) (hb1 : Below w.heap.size w w1) (hb2 : Below w1.heap.size w1 w2) (hc : CopyAt w1 w2 v ls) (hz : ls.length ≤ 2000) (hn : nameB s = true) :
    Calls Tryz.prog 42 #[.pointer (some ⟨g, 0, none⟩), .string s, .agg #[.int .i64 2, .string ⟨#[]⟩, v]] w2 fun e w' => e = .returned (.int .i64 (putE L s)) ∧ PutEnd (putE L s) U F g bm w w' L E s (.mac ls) := by
  obtain ⟨r, F', ho, hF', hr⟩ := hc
  have hb := ntrans hb1 hb2
  have h2 := h.below hb
  have hsz := hb1.size
  have h3 : StAt U (fun i => F i ∨ F' i) R w2 g bm L E := h2.wide (fun _ h => h) (fun _ h => .inl h) h2.ug (by
    rintro i hi (h4 | h4)
    · exact h.uf i hi h4
    · have := h.ul i hi
      have := (hF' i h4).1
      omega) h2.ul (by
    rintro i (h4 | h4)
    · exact h2.fl i h4
    · exact (hF' i h4).2)
  refine (cPut s hs h3 (r := r) (k := 2) (t := ⟨#[]⟩) (v := v) (en := .mac ls) ⟨rfl, rfl, ho.stay (fun _ _ _ => rfl) (fun _ h => .inr h), hz⟩ (fun i hi => ?_) hn).mono fun e w' ⟨q1, q2, q3⟩ => ⟨q1, ?_⟩
  · have q := hr i hi
    refine ⟨fun h4 => ?_, ?_, fun e => ?_, q.2.1⟩
    · have := h.ul i h4; omega
    · rintro (h4 | h4)
      · have := h.fl i h4; omega
      · exact q.2.2 h4
    · have := h.blk.lt; omega
  · unfold putE
    cases hf : fullB L s
    · exact ⟨fun h => absurd rfl h, fun _ => (q3 hf).to_ hb (fun i hi => Nat.le_trans hsz (hr i hi).1) (fun i hi => by
        rcases hi with h4 | h4
        · exact .inl h4
        · exact .inr (Nat.le_trans hsz (hF' i h4).1))⟩
    · exact ⟨fun _ => ntrans hb (q2 hf), fun h => by cases h⟩
/-- What Macro answers. -/
def mcE (L : List Ent) (s : ByteArray) (ls : List Ln) : Int := if chk (lnsB ls) s = 0 then (if 2000 < ls.length then 2 else putE L s) else chk (lnsB ls) s
set_option maxHeartbeats 400000 in
/-- Macro. -/
theorem cMacro (s : ByteArray) (K : Nat → Prop) (v : Value) (ls : List Ln) (hs : s.size ≤ maxLen) (h : StAt U F R w g bm L E) (hv : LnsAt K w v ls) (hK : ∀ k, K k → k < w.heap.size) :
    Calls Tryz.prog 18 #[.pointer (some ⟨g, 0, none⟩), .string s, v] w fun e w' => e = .returned (.int .i64 (mcE L s ls)) ∧ PutEnd (mcE L s ls) U F g bm w w' L E s (.mac ls) := by
  have HV := Lib.hid (cLns K v ls w hv hK)
  have HC := Lib.hid (fun (w1 : World) (hb : Below w.heap.size w w1) => cCheck (lnsB ls) s hs g bm w1 (h.below hb).c0)
  by_cases hc : chk (lnsB ls) s = 0
  · obtain ⟨h1, h2⟩ := chk_0 hc
    rw [hc] at HC
    rw [h1] at HV HC
    by_cases hz : ls.length ≤ 2000
    · have e1 : mcE L s ls = putE L s := by unfold mcE; rw [if_pos hc, if_neg (by omega)]
      rw [e1]
      have HCp := Lib.hid (fun (w1 : World) (hb : Below w.heap.size w w1) => cCopyL K v ls w1 (hv.stay (Kept.of_below hb hK) (fun _ h => h)) (fun k hk => Nat.lt_of_lt_of_le (hK k hk) hb.size) (by omega))
      have HP := Lib.hid (fun (w1 w2 : World) (v' : Value) hb1 hb2 hcp => cPutM (w := w) s v' ls hs w1 w2 h hb1 hb2 hcp hz h2)
      obtain ⟨A, cap, rfl, hn1, hn2, _⟩ := hv
      clear e1 hc h1 h2 h hK
      generalize putE L s = pe at HP ⊢
      go_enter Tryz.func18, Tryz.ntmps18
      go_wp2_with (first
        | (go_at_call 46; refine HV.out.mono ?_; rintro e w1 ⟨rfl, hb1⟩)
        | (go_at_call 40; refine (HC.out _ hb1).mono ?_; rintro e w1' ⟨rfl, rfl⟩)
        | (go_at_call 37; refine (HCp.out _ hb1).mono ?_; rintro e w2 ⟨A2, c2, rfl, hcp, hb2⟩)
        | (go_at_call 42; refine (HP.out _ _ _ hb1 hb2 hcp).mono ?_; rintro e w3 ⟨rfl, hp⟩))
      go_ret
      exact ⟨rfl, hp⟩
    · have e1 : mcE L s ls = 2 := by unfold mcE; rw [if_pos hc, if_pos (by omega)]
      rw [e1]
      obtain ⟨A, cap, rfl, hn1, hn2, _⟩ := hv
      unfold maxLen at hn2
      clear e1 hc h1 h2 h hK
      have hzi : (2000 : Int) < (ls.length : Nat) := by omega
      go_enter Tryz.func18, Tryz.ntmps18
      go_wp2_with (first
        | (go_at_call 46; refine HV.out.mono ?_; rintro e w1 ⟨rfl, hb1⟩)
        | (go_at_call 40; refine (HC.out _ hb1).mono ?_; rintro e w1' ⟨rfl, rfl⟩))
      go_ret
      exact ⟨rfl, fun _ => hb1, fun h => by cases h⟩
  · have e1 : mcE L s ls = chk (lnsB ls) s := by unfold mcE; rw [if_neg hc]
    rw [e1]
    clear e1 h hv hK
    generalize lnsB ls = b at HV HC hc ⊢
    generalize chk b s = c at HC hc ⊢
    have hB : (c != 0) = true := by simpa using hc
    go_enter Tryz.func18, Tryz.ntmps18
    go_wp2_with (first
      | (go_at_call 46; refine HV.out.mono ?_; rintro e w1 ⟨rfl, hb1⟩)
      | (go_at_call 40; refine (HC.out _ hb1).mono ?_; rintro e w1' ⟨rfl, rfl⟩))
    go_ret
    exact ⟨rfl, fun _ => hb1, fun h => absurd h hc⟩
end
end Go.Proofs.YtbedddgfijpbcaaGreat
