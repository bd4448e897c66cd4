/- Walks: New, Define, Append, Text. -/
import Derived.Test.YtbedddgfijpbcaaGreatQg
namespace Go.Proofs.YtbedddgfijpbcaaGreat
open Go.RowKit Go.Maps Go.WideMaps

/-- New. -/
theorem cNew (w : World) (E : Nat → En) : Calls Tryz.prog 7 #[] w fun e w' => e = .returned (.pointer (some ⟨w.heap.size + 1, 0, none⟩)) ∧
    StAt (· = w.heap.size) (fun _ => False) (fun _ => none) w' (w.heap.size + 1) w.heap.size [] E ∧ Below w.heap.size w w' := by
  have hmm := @run_makeMap Tryz.prog
  go_enter Tryz.func7, Tryz.ntmps7
  go_wp2_with fail
  go_ret
  refine ⟨rfl, ⟨?_, ?_, List.Pairwise.nil, by simp, by intro p hp; (cases hp), rfl, by omega, fun _ _ => id, ?_, fun _ h => h.elim, by intro p hp; (cases hp), by intro p hp; (cases hp), by intro p hp; (cases hp), by intro p hp; (cases hp)⟩, ((Below.refl _ _).alloc (Nat.le_refl _) _).alloc (by simp) _⟩
  · have := Blk.new (w.alloc (.map #[] 0)) 46 #[.map (some w.heap.size)]
    simpa using this
  · exact (World.ownsMap_made w Tryz.prog 9 RR).alloc _
  · intro i hi
    subst hi
    simp
    omega
section
variable {U F : Nat → Prop} {R : Nat → Option Nat} {w : World} {g bm : Nat} {L : List Ent} {E : Nat → En}
theorem Put0.none_ {w' : World} {s : ByteArray} {en : En} (h : Put0 none U F g bm w w' L E s en) : PutTo U F g bm w w' L E s en := by
  obtain ⟨e', U', R', h1, h2, h3, h4, h5⟩ := h
  refine ⟨e', U', F, R', h1, h2, fun i hi => ?_, fun i hi => .inl hi, h4, h5⟩
  rcases h3 i hi with h | h | h
  · exact .inl h
  · cases h
  · exact .inr h
/-- What Define answers. -/
def dfE (L : List Ent) (s t : ByteArray) : Int := if chk (textB t) s = 0 then putE L s else chk (textB t) s
theorem chk_0 {b : Bool} {s : ByteArray} (h : chk b s = 0) : b = true ∧ nameB s = true := by
  unfold chk at h
  split at h
  · rename_i hb
    refine ⟨hb, ?_⟩
    cases hn : nameB s
    · rw [hn] at h; cases h
    · rfl
  · cases h
theorem text_size {t : ByteArray} (h : textB t = true) : t.size ≤ 2000 := by
  unfold textB at h
  simp only [Bool.and_eq_true, decide_eq_true_eq] at h
  exact h.1
/-- Define. -/
theorem cDefine (s t : ByteArray) (hs : s.size ≤ maxLen) (ht : t.size ≤ maxLen) (h : StAt U F R w g bm L E) :
    Calls Tryz.prog 14 #[.pointer (some ⟨g, 0, none⟩), .string s, .string t] w fun e w' => e = .returned (.int .i64 (dfE L s t)) ∧
      (dfE L s t ≠ 0 → Below w.heap.size w w') ∧ (dfE L s t = 0 → PutTo U F g bm w w' L E s (.str t)) := by
  have HT := Lib.hid (fun w => cText t ht w)
  have HC := Lib.hid (cCheck (textB t) s hs g bm w h.c0)
  by_cases hc : chk (textB t) s = 0
  · obtain ⟨h1, h2⟩ := chk_0 hc
    have HP := Lib.hid (cPut s hs h (r := none) (k := 1) (t := t) (v := .slice none 0 0) (en := .str t) ⟨rfl, rfl, rfl, text_size h1, rfl⟩ (fun i hi => by cases hi) h2)
    have e1 : dfE L s t = putE L s := by unfold dfE; rw [if_pos hc]
    rw [e1]
    rw [hc] at HC
    rw [h1] at HT HC
    have HQ : Hid (∀ w', (fullB L s = true → Below w.heap.size w w') ∧ (fullB L s = false → Put0 none U F g bm w w' L E s (.str t)) → (putE L s ≠ 0 → Below w.heap.size w w') ∧ (putE L s = 0 → PutTo U F g bm w w' L E s (.str t))) := Lib.hid (fun w' ⟨h1, h2⟩ => by
      unfold putE
      cases hf : fullB L s
      · exact ⟨fun h => absurd rfl h, fun _ => (h2 hf).none_⟩
      · exact ⟨fun _ => h1 hf, fun h => by cases h⟩)
    clear e1 hc h1 h2 h
    generalize putE L s = pe at HP HQ ⊢
    go_enter Tryz.func14, Tryz.ntmps14
    go_wp2_with (first
      | (go_at_call 41; refine (HT.out _).mono ?_; rintro e w1 ⟨rfl, rfl⟩)
      | (go_at_call 40; refine HC.out.mono ?_; rintro e w1 ⟨rfl, rfl⟩)
      | (go_at_call 42; refine HP.out.mono ?_; rintro e w1 ⟨rfl, hp⟩))
    go_ret
    exact ⟨rfl, HQ.out _ hp⟩
  · have e1 : dfE L s t = chk (textB t) s := by unfold dfE; rw [if_neg hc]
    rw [e1]
    clear e1 h
    generalize textB t = b at HT HC hc ⊢
    generalize chk b s = c at HC hc ⊢
    have hB : (c != 0) = true := by simpa using hc
    go_enter Tryz.func14, Tryz.ntmps14
    go_wp2_with (first
      | (go_at_call 41; refine (HT.out _).mono ?_; rintro e w1 ⟨rfl, rfl⟩)
      | (go_at_call 40; refine HC.out.mono ?_; rintro e w1 ⟨rfl, rfl⟩))
    go_ret
    exact ⟨rfl, fun _ => Below.refl _ _, fun h => absurd h hc⟩
end
end Go.Proofs.YtbedddgfijpbcaaGreat
