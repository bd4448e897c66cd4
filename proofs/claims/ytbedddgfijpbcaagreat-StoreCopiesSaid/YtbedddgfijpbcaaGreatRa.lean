/- The document's store in memory; walk: the document's IsName. Walks: find, there, of the document's store. -/
import Derived.Test.YtbedddgfijpbcaaGreatQz
import Derived.Test.YtbedddgfijpbcaaGreatQs
import Derived.Maps.AppendAt
import Derived.Deep.AppendLies
import Derived.RegionTactic
import Derived.StillTailTactics
import Derived.OwnWalk
namespace Go.Proofs.YtbedddgfijpbcaaGreat
open Go.RowKit

/-- The document's IsName. -/
theorem nName (s : ByteArray) (hs : s.size ≤ maxLen) (w : World) :
    Calls Tryz.prog 51 #[.string s] w fun e w' => e = .returned (.bool (nameB s)) ∧ w = w' := by
  unfold maxLen at hs
  by_cases h0 : s.size < 1
  · have hn : nameB s = false := by unfold nameB; rw [decide_eq_false (by omega : ¬ 1 ≤ s.size)]; rfl
    rw [hn]; clear hn
    go_enter Tryz.func51, Tryz.ntmps51
    go_wp2_with fail
    go_ret
    exact ⟨rfl, rfl⟩
  · by_cases h9 : 20 < s.size
    · have hn : nameB s = false := by unfold nameB; rw [decide_eq_false (by omega : ¬ s.size ≤ 20)]; simp
      rw [hn]; clear hn
      go_enter Tryz.func51, Tryz.ntmps51
      go_wp2_with fail
      go_ret
      exact ⟨rfl, rfl⟩
    · have hn : nameB s = allB nmB s := by
        unfold nameB
        rw [show decide (1 ≤ s.size) = true from decide_eq_true (by omega), show decide (s.size ≤ 20) = true from decide_eq_true (by omega)]; rfl
      rw [hn]; clear hn
      go_enter Tryz.func51, Tryz.ntmps51
      go_wp2
      go_loop [3] (fun v3 => ∃ k : Nat, k ≤ s.size ∧ v3 = .int .i64 k ∧ ∀ (j : Nat) (hj : j < s.size), j < k → nmB s[j].toNat = true) (fun v3 => s.size - (intOf v3).toNat)
      case atStart => exact ⟨0, Nat.zero_le _, rfl, fun j hj h => by omega⟩
      case round =>
        obtain ⟨k, hk, rfl, hb⟩ := hrel
        have HB := Lib.hid hb
        clear hb
        by_cases hlt : k < s.size
        · by_cases h1 : (s[k].toNat : Int) < 33
          · have hf : nmB s[k].toNat = false := by
              have : ¬ 33 ≤ s[k].toNat := by omega
              simp [nmB, this]
            go_wp2
            go_ret
            exact ⟨ret_b (allB_no k hlt hf).symm, rfl⟩
          · by_cases h2 : 126 < (s[k].toNat : Int)
            · have hf : nmB s[k].toNat = false := by
                have : ¬ s[k].toNat ≤ 126 := by omega
                simp [nmB, this]
              go_wp2
              go_ret
              exact ⟨ret_b (allB_no k hlt hf).symm, rfl⟩
            · by_cases h3 : (s[k].toNat : Int) = 93
              · have hf : nmB s[k].toNat = false := by
                  have : s[k].toNat = 93 := by omega
                  simp [nmB, this]
                have hB : ((s[k].toNat : Int) == 93) = true := by simp [h3]
                clear h3
                go_wp2
                go_ret
                exact ⟨ret_b (allB_no k hlt hf).symm, rfl⟩
              · have hf : nmB s[k].toNat = true := by
                  have e1 : s[k].toNat ≠ 93 := by omega
                  have e2 : 33 ≤ s[k].toNat := by omega
                  have e3 : s[k].toNat ≤ 126 := by omega
                  simp [nmB, e1, e2, e3]
                have hB : ((s[k].toNat : Int) == 93) = false := by simp [h3]
                clear h3
                go_wp2
                go_round
                case rel => exact ⟨k + 1, by omega, by go_num, fun j hj h => by
                  by_cases e : j = k
                  · subst e; exact hf
                  · exact HB.out j hj (by omega)⟩
                case measure => simp [intOf]; omega
        · go_wp2
          go_ret
          exact ⟨ret_b (allB_yes fun j hj => HB.out j hj (by omega)).symm, rfl⟩

/-! ### rows of pairs of cells -/
def c2 {α : Type} (f : α → Value × Value) (L : List α) : List Value := L.flatMap fun a => [(f a).1, (f a).2]
section
variable {α : Type} {f : α → Value × Value}
theorem c2_cons (a : α) (L : List α) : c2 f (a :: L) = (f a).1 :: (f a).2 :: c2 f L := rfl
theorem c2_len : ∀ L : List α, (c2 f L).length = L.length * 2
  | [] => rfl
  | a :: L => by rw [c2_cons, List.length_cons, List.length_cons, c2_len L, List.length_cons]; omega
theorem c2_app (a b : List α) : c2 f (a ++ b) = c2 f a ++ c2 f b := List.flatMap_append ..
theorem c2_at : ∀ {L : List α} {k : Nat} {a : α}, L[k]? = some a → (c2 f L)[k * 2]? = some (f a).1 ∧ (c2 f L)[k * 2 + 1]? = some (f a).2
  | [], k, a, h => by simp at h
  | b :: L, 0, a, h => by
    have h : b = a := by simpa using h
    subst h
    exact ⟨rfl, rfl⟩
  | b :: L, k + 1, a, h => by
    have := c2_at (L := L) (k := k) (by simpa using h)
    rw [c2_cons, show (k + 1) * 2 = k * 2 + 1 + 1 by omega]
    simpa using this
theorem c2_set : ∀ {L : List α} {k : Nat} (a : α), k < L.length → ((c2 f L).set (k * 2) (f a).1).set (k * 2 + 1) (f a).2 = c2 f (L.set k a)
  | [], k, a, h => absurd h (Nat.not_lt_zero _)
  | b :: L, 0, a, _ => rfl
  | b :: L, k + 1, a, h => by
    have := c2_set (L := L) (k := k) a (by simpa using h)
    rw [List.set_cons_succ, c2_cons, c2_cons, show (k + 1) * 2 = k * 2 + 1 + 1 by omega, List.set_cons_succ, List.set_cons_succ, List.set_cons_succ, List.set_cons_succ, this]
theorem c2_take : ∀ (L : List α) (k : Nat), (c2 f L).take (k * 2) = c2 f (L.take k)
  | [], k => by simp [c2]
  | a :: L, 0 => by simp [c2]
  | a :: L, k + 1 => by rw [c2_cons, show (k + 1) * 2 = k * 2 + 1 + 1 by omega, List.take_succ_cons, List.take_succ_cons, c2_take L k, List.take_succ_cons, c2_cons]
theorem c2_drop : ∀ (L : List α) (k : Nat), (c2 f L).drop (k * 2) = c2 f (L.drop k)
  | [], k => by simp [c2]
  | a :: L, 0 => by simp [c2]
  | a :: L, k + 1 => by rw [c2_cons, show (k + 1) * 2 = k * 2 + 1 + 1 by omega, List.drop_succ_cons, List.drop_succ_cons, c2_drop L k, List.drop_succ_cons]
end
theorem own_turn {w w' : World} {b : Nat} {e : TypeId} {sz : Nat} {v : Value} {n : Nat} {xs : List Value} {S : Nat → Prop} (h : w.ownsRow b e sz v n xs) (hT : Turn S w w') (hn : ∀ g, v.ownBlock = some g → ¬ S g) : w'.ownsRow b e sz v n xs := by
  refine ⟨h.1, ?_⟩
  rcases h.2 with h2 | ⟨g, cap, cur, rfl, h3, h4, h5⟩
  · exact .inl h2
  · exact .inr ⟨g, cap, cur, rfl, h3, (show Blk w' g e cur from hT.blk (show Blk w g e cur from h4) (hn g rfl)), h5⟩
/-! ### the document's store in memory -/
def tLn (t : ByteArray) : Ln := ⟨t, false, 0, 0, []⟩
/-- What an entry's lines are, in the document's words. -/
def enL : En → List Ln
  | .str t => [tLn t]
  | .mac ls => ls
def okE : En → Prop
  | .str t => t.size ≤ 2000
  | .mac ls => ls.length ≤ 2000
def nmF (p : Ent) : Value × Value := (.string p.1, .int .i64 (p.2 : Nat))
def enF (z : En × Value) : Value × Value := (.int .i64 z.1.kind, z.2)
structure RS (U K : Nat → Prop) (w : World) (x : Nat) (M : List Ent) (zs : List (En × Value)) (nv ev : Value) : Prop where
  blk : Blk w x 50 #[.bool true, nv, ev]
  nms : w.ownsRow 0 81 2 nv M.length (c2 nmF M)
  ens : w.ownsRow 0 62 2 ev zs.length (c2 enF zs)
  lns : ∀ z ∈ zs, LnsAt K w z.2 (enL z.1) ∧ okE z.1
  srt : Srt M
  len : M.length ≤ 500
  good : ∀ p ∈ M, nameB p.1 = true
  ats : ∀ p ∈ M, p.2 < zs.length
  ux : U x
  ue : ∀ g, ev.ownBlock = some g → U g
  kn : ∀ g, nv.ownBlock = some g → K g
  uk : ∀ i, U i → ¬ K i
  ul : ∀ i, U i → i < w.heap.size
  kl : ∀ i, K i → i < w.heap.size
/-- The document's store: names and entries. -/
def RSt (U K : Nat → Prop) (w : World) (x : Nat) (M : List Ent) (es : List En) : Prop := ∃ zs nv ev, RS U K w x M zs nv ev ∧ zs.map (·.1) = es
section
variable {U K : Nat → Prop} {w w' : World} {x : Nat} {M : List Ent} {zs : List (En × Value)} {nv ev : Value} {es : List En}
theorem RS.turn {S : Nat → Prop} (h : RS U K w x M zs nv ev) (hT : Turn S w w') (h1 : ∀ i, U i → ¬ S i) (h2 : ∀ i, K i → ¬ S i) : RS U K w' x M zs nv ev :=
  ⟨hT.blk h.blk (h1 _ h.ux), own_turn h.nms hT (fun g hg => h2 _ (h.kn g hg)), own_turn h.ens hT (fun g hg => h1 _ (h.ue g hg)), fun z hz => ⟨(h.lns z hz).1.stay (Kept.of_turn hT h2) (fun _ h => h), (h.lns z hz).2⟩, h.srt, h.len, h.good, h.ats, h.ux, h.ue, h.kn, h.uk,
   fun i hi => Nat.lt_of_lt_of_le (h.ul i hi) hT.size, fun i hi => Nat.lt_of_lt_of_le (h.kl i hi) hT.size⟩
theorem RS.below (h : RS U K w x M zs nv ev) (hb : Below w.heap.size w w') : RS U K w' x M zs nv ev :=
  h.turn (S := fun _ => False) (Turn.of_below hb) (fun _ _ => id) (fun _ _ => id)
theorem RSt.turn {S : Nat → Prop} (h : RSt U K w x M es) (hT : Turn S w w') (h1 : ∀ i, U i → ¬ S i) (h2 : ∀ i, K i → ¬ S i) : RSt U K w' x M es := by
  obtain ⟨zs, nv, ev, h, e⟩ := h
  exact ⟨zs, nv, ev, h.turn hT h1 h2, e⟩
theorem RSt.below (h : RSt U K w x M es) (hb : Below w.heap.size w w') : RSt U K w' x M es := by
  obtain ⟨zs, nv, ev, h, e⟩ := h
  exact ⟨zs, nv, ev, h.below hb, e⟩
theorem RS.q0 (h : RS U K w x M zs nv ev) : w.cell? ⟨x, 0, none⟩ = some (.bool true) := h.blk.cell 0
theorem RS.q1 (h : RS U K w x M zs nv ev) : w.cell? ⟨x, 1, none⟩ = some nv := h.blk.cell 1
theorem RS.q2 (h : RS U K w x M zs nv ev) : w.cell? ⟨x, 2, none⟩ = some ev := h.blk.cell 2
theorem own_form2 {b : Nat} {t : TypeId} {sz n : Nat} {v : Value} {xs : List Value} (h : w.ownsRow b t sz v n xs) : ∃ A cap, v = .slice A n cap ∧ n ≤ cap ∧ (0 < n → ∃ g, A = some ⟨g, 0, none⟩) := by
  rcases h.2 with ⟨rfl, e⟩ | ⟨g, cap, cur, rfl, _, _, hc, _⟩
  · exact ⟨none, 0, by rw [e], by omega, fun h => absurd h (by omega)⟩
  · exact ⟨_, cap, rfl, hc, fun _ => ⟨g, rfl⟩⟩
theorem RS.nm {g cap k : Nat} {p : Ent} (h : RS U K w x M zs (.slice (some ⟨g, 0, none⟩) M.length cap) ev) (hk : M[k]? = some p) : w.cell? ⟨g, k * 2, none⟩ = some (.string p.1) ∧ w.cell? ⟨g, k * 2 + 1, none⟩ = some (.int .i64 (p.2 : Nat)) := by
  have hlt := (List.getElem?_eq_some_iff.1 hk).1
  have := c2_at (f := nmF) hk
  rw [h.nms.cellAt _ (by omega), h.nms.cellAt _ (by omega)]
  exact this
theorem RS.en {g cap k : Nat} {z : En × Value} (h : RS U K w x M zs nv (.slice (some ⟨g, 0, none⟩) zs.length cap)) (hk : zs[k]? = some z) : w.cell? ⟨g, k * 2, none⟩ = some (.int .i64 z.1.kind) ∧ w.cell? ⟨g, k * 2 + 1, none⟩ = some z.2 := by
  have hlt := (List.getElem?_eq_some_iff.1 hk).1
  have := c2_at (f := enF) hk
  rw [h.ens.cellAt _ (by omega), h.ens.cellAt _ (by omega)]
  exact this
end
/-- What find answers. -/
def fdI (M : List Ent) (s : ByteArray) : Int := if hasB M s then (getR M s : Nat) else -1
end Go.Proofs.YtbedddgfijpbcaaGreat
namespace Go.Proofs.YtbedddgfijpbcaaGreat
open Go.RowKit Go.Maps Go.WideMaps

section
variable {U K : Nat → Prop} {w w' : World} {x : Nat} {M : List Ent} {es : List En}
theorem has_not {s : ByteArray} (h : ∀ (j : Nat) p, M[j]? = some p → p.1 ≠ s) : hasB M s = false := by
  cases hh : hasB M s
  · rfl
  · obtain ⟨j, hj⟩ := List.getElem?_of_mem (mem_get hh)
    exact absurd rfl (h j _ hj)
theorem nNo (h : RSt U K w x M es) :
    Calls Tryz.prog 38 #[.pointer (some ⟨x, 0, none⟩)] w fun e w' => e = .returned (.bool false) ∧ w = w' := by
  obtain ⟨zs, nv, ev, h, rfl⟩ := h
  have c0 := h.q0
  clear h
  go_enter Tryz.func38, Tryz.ntmps38
  go_wp2_with fail
  go_ret
  exact ⟨rfl, rfl⟩
/-- find. -/
theorem nFind (s : ByteArray) (h : RSt U K w x M es) :
    Calls Tryz.prog 53 #[.pointer (some ⟨x, 0, none⟩), .string s] w fun e w' => e = .returned (.int .i64 (fdI M s)) ∧ w = w' := by
  obtain ⟨zs, nv, ev, h, rfl⟩ := h
  obtain ⟨A, cap, rfl, hcap, hA⟩ := own_form2 h.nms
  have c1 := h.q1
  have hlen := h.len
  have H := Lib.hid h
  have HA := Lib.hid hA
  clear h hA
  go_enter Tryz.func53, Tryz.ntmps53
  go_wp2
  go_loop [5] (fun v5 => ∃ k : Nat, k ≤ M.length ∧ v5 = .int .i64 k ∧ ∀ (j : Nat) p, M[j]? = some p → j < k → p.1 ≠ s) (fun v5 => M.length - (intOf v5).toNat)
  case atStart => exact ⟨0, Nat.zero_le _, rfl, fun j p _ h => absurd h (Nat.not_lt_zero _)⟩
  case round =>
    obtain ⟨k, hk, rfl, hb⟩ := hrel
    have HB := Lib.hid hb
    clear hb
    by_cases hlt : k < M.length
    · obtain ⟨g, rfl⟩ := HA.out (by omega)
      have hp := List.getElem?_eq_getElem hlt
      generalize M[k] = p at hp
      obtain ⟨d0, d1⟩ := H.out.nm hp
      have HP := Lib.hid hp
      clear hp
      have he := eq_toList p.1 s
      by_cases hs : p.1 = s
      · have hv : fdI M s = (p.2 : Nat) := by
          have := mem_has H.out.srt (List.mem_of_getElem? HP.out)
          rw [hs] at this
          unfold fdI
          rw [if_pos this.1, this.2]
        have HVa := Lib.hid hv
        rw [decide_eq_true hs] at he
        clear hv hs
        go_wp2_with fail
        go_ret
        exact ⟨ret_i HVa.out.symm, rfl⟩
      · rw [decide_eq_false hs] at he
        have HS := Lib.hid hs
        clear hs
        go_wp2_with fail
        go_round
        case rel => exact ⟨k + 1, by omega, by go_num, fun j q hj hjk => by
          by_cases e : j = k
          · subst e
            rw [HP.out] at hj
            injection hj with hj
            rw [← hj]
            exact HS.out
          · exact HB.out j q hj (by omega)⟩
        case measure => simp [intOf]; omega
    · have hv : fdI M s = -1 := by
        unfold fdI
        rw [has_not (fun j p hj => HB.out j p hj (by have := (List.getElem?_eq_some_iff.1 hj).1; omega))]
        rfl
      have HVa := Lib.hid hv
      clear hv
      go_wp2
      go_ret
      exact ⟨ret_i HVa.out.symm, rfl⟩
/-- there. -/
theorem nThere (s : ByteArray) (h : RSt U K w x M es) :
    Calls Tryz.prog 56 #[.pointer (some ⟨x, 0, none⟩), .string s] w fun e w' => e = .returned (.tuple #[.int .i64 (if hasB M s then (getR M s : Nat) else 0), .int .i64 (fdE M s)]) ∧ w = w' := by
  have HF := Lib.hid (nFind s h)
  have HN := Lib.hid (nNo h)
  clear h
  unfold fdI at HF
  unfold fdE
  cases hh : hasB M s
  · rw [hh] at HF
    simp only [Bool.false_eq_true, if_false] at HF ⊢
    go_enter Tryz.func56, Tryz.ntmps56
    go_wp2_with (first
      | (go_at_call 38; refine HN.out.mono ?_; rintro e w1 ⟨rfl, rfl⟩)
      | (go_at_call 53; refine HF.out.mono ?_; rintro e w1 ⟨rfl, rfl⟩))
    go_ret2
    exact ⟨rfl, rfl⟩
  · rw [hh] at HF
    simp only [if_true] at HF ⊢
    generalize getR M s = r at *
    go_enter Tryz.func56, Tryz.ntmps56
    go_wp2_with (first
      | (go_at_call 38; refine HN.out.mono ?_; rintro e w1 ⟨rfl, rfl⟩)
      | (go_at_call 53; refine HF.out.mono ?_; rintro e w1 ⟨rfl, rfl⟩))
    go_ret2
    exact ⟨rfl, rfl⟩
end
end Go.Proofs.YtbedddgfijpbcaaGreat
