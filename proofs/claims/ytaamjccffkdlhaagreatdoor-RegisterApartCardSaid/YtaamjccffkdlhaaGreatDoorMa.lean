/- The document's book in memory; walks: at. -/
import Derived.Test.YtaamjccffkdlhaaGreatDoorKa
import Derived.Maps.AppendAt
import Derived.Deep.AppendLies
import Derived.RegionTactic
import Derived.StillTailTactics
import Derived.OwnWalk
namespace Go.Proofs.YtaamjccffkdlhaaGreatDoor
open Go.RowKit Go.Maps Go.WideMaps

/-! ### the document's book in memory -/
def regCells (p : Ent) : List Value := [.string p.1, .int .i64 p.2.v, .int .i64 p.2.s, .string p.2.f]
def rcs (L : List Ent) : List Value := L.flatMap regCells
theorem rcs_len : ∀ L : List Ent, (rcs L).length = L.length * 4
  | [] => rfl
  | p :: t => by
    have := rcs_len t
    unfold rcs at this ⊢
    rw [List.flatMap_cons, List.length_append, this, List.length_cons]
    show 4 + _ = _
    omega
theorem rcs_app (a c : List Ent) : rcs (a ++ c) = rcs a ++ rcs c := List.flatMap_append ..
theorem rcs_take (k : Nat) (L : List Ent) : (rcs L).take (k * 4) = rcs (L.take k) := by
  rcases Nat.lt_or_ge k L.length with h | h
  · conv => lhs; rw [← List.take_append_drop k L, rcs_app]
    have : (rcs (L.take k)).length = k * 4 := by rw [rcs_len, List.length_take]; congr 1; omega
    rw [← this, List.take_left']
    rfl
  · rw [List.take_of_length_le h, List.take_of_length_le (by rw [rcs_len]; omega)]
theorem rcs_drop (k : Nat) (L : List Ent) : (rcs L).drop (k * 4) = rcs (L.drop k) := by
  rcases Nat.lt_or_ge k L.length with h | h
  · conv => lhs; rw [← List.take_append_drop k L, rcs_app]
    have : (rcs (L.take k)).length = k * 4 := by rw [rcs_len, List.length_take]; congr 1; omega
    rw [← this, List.drop_left']
    rfl
  · rw [List.drop_of_length_le h, List.drop_of_length_le (by rw [rcs_len]; omega)]; rfl
theorem rcs_at {L : List Ent} {k : Nat} {p : Ent} (h : L[k]? = some p) (j : Nat) (hj : j < 4) : (rcs L)[k * 4 + j]? = (regCells p)[j]? := by
  have h1 : (rcs L)[k * 4 + j]? = ((rcs L).drop (k * 4))[j]? := by rw [List.getElem?_drop]
  rw [h1, rcs_drop]
  obtain ⟨hk, e⟩ := List.getElem?_eq_some_iff.1 h
  rw [List.drop_eq_getElem_cons hk, e]
  unfold rcs
  rw [List.flatMap_cons, List.getElem?_append_left (by simpa [regCells] using hj)]
structure RfAt (b : Nat) (w : World) (x : Nat) (v : Value) (L : List Ent) : Prop where
  blk : Blk w x 29 #[v]
  own : w.ownsRow b 75 4 v L.length (rcs L)
theorem RfAt.form {b : Nat} {w : World} {x : Nat} {v : Value} {L : List Ent} (h : RfAt b w x v L) : ∃ A cap, v = .slice A L.length cap ∧ L.length ≤ cap ∧ (0 < L.length → ∃ g, A = some ⟨g, 0, none⟩) := by
  rcases h.own.2 with ⟨rfl, e⟩ | ⟨g, cap, cur, rfl, _, _, hc, _⟩
  · exact ⟨none, 0, by rw [e], by omega, fun h => absurd h (by omega)⟩
  · exact ⟨_, cap, rfl, hc, fun _ => ⟨g, rfl⟩⟩
theorem RfAt.cellAt {b : Nat} {w : World} {x g cap : Nat} {L : List Ent} (h : RfAt b w x (.slice (some ⟨g, 0, none⟩) L.length cap) L) {k : Nat} {p : Ent} (hk : L[k]? = some p) (j : Nat) (hj : j < 4) : w.cell? ⟨g, k * 4 + j, none⟩ = (regCells p)[j]? := by
  have hlt := (List.getElem?_eq_some_iff.1 hk).1
  rw [h.own.cellAt _ (by omega), rcs_at hk j hj]
theorem RfAt.c0 {b : Nat} {w : World} {x : Nat} {v : Value} {L : List Ent} (h : RfAt b w x v L) : w.cell? ⟨x, 0, none⟩ = some v := h.blk.cell 0
theorem idx_before {s : ByteArray} : ∀ {L : List Ent} {k : Nat}, k < idx L s → ∃ p, L[k]? = some p ∧ nlt p.1 s = true
  | [], k, h => by simp [idx] at h
  | p :: t, k, h => by
    unfold idx at h
    split at h
    · rename_i hp
      cases k with
      | zero => exact ⟨p, rfl, hp⟩
      | succ k => exact idx_before (L := t) (k := k) (by omega)
    · omega
theorem idx_at {s : ByteArray} : ∀ {L : List Ent} {p : Ent}, L[idx L s]? = some p → nlt p.1 s = false
  | [], p, h => by simp at h
  | q :: t, p, h => by
    unfold idx at h
    split at h
    · exact idx_at (L := t) (by simpa using h)
    · rename_i hq
      have : q = p := by simpa using h
      subst this
      simpa using hq
theorem eq_toList (a c : ByteArray) : (a.toList == c.toList) = decide (a = c) := by
  rw [ByteArray.toList_eq, ByteArray.toList_eq, Bool.eq_iff_iff]
  simp only [beq_iff_eq, decide_eq_true_eq]
  exact ⟨ba_ext, fun e => by rw [e]⟩
/-- at, of the document's book. -/
theorem cAt (s : ByteArray) (b x : Nat) (v : Value) (L : List Ent) (hl : L.length ≤ 500) (w : World) (h : RfAt b w x v L) :
    Calls Tryz.prog 54 #[.pointer (some ⟨x, 0, none⟩), .string s] w fun e w' => e = .returned (.tuple #[.int .i64 (idx L s : Nat), .bool (hasB L s)]) ∧ Below w.heap.size w w' := by
  obtain ⟨A, cap, rfl, hcap, hA⟩ := h.form
  have c0 := h.c0
  have hle := idx_le s L
  have HL := Lib.hid h
  have HA := Lib.hid hA
  clear h hA
  go_enter Tryz.func54, Tryz.ntmps54
  go_wp2
  go_loop [6] (fun v6 => ∃ k : Nat, k ≤ idx L s ∧ v6 = .int .i64 k) (fun v6 => idx L s - (intOf v6).toNat)
  case atStart => exact ⟨0, Nat.zero_le _, rfl⟩
  case round =>
    obtain ⟨k, hk, rfl⟩ := hrel
    by_cases hlt : k < idx L s
    · obtain ⟨p, hp, hnl⟩ := idx_before hlt
      have hkl : k < L.length := by omega
      obtain ⟨g, rfl⟩ := HA.out (by omega)
      have hc := HL.out.cellAt hp 0 (by omega)
      change w.cell? ⟨g, k * 4, none⟩ = some (Value.string p.1) at hc
      have hb : Op.bytesLess p.1.toList s.toList = true := by rw [ByteArray.toList_eq, ByteArray.toList_eq]; exact hnl
      have HP := Lib.hid hp
      have HN := Lib.hid hnl
      clear hp hnl
      go_wp2_with fail
      go_round
      case rel => exact ⟨k + 1, by omega, by go_num⟩
      case measure => simp [intOf]; omega
    · have e : k = idx L s := by omega
      subst e
      cases hx : L[idx L s]? with
      | none =>
        have hge : L.length ≤ idx L s := by
          rcases Nat.lt_or_ge (idx L s) L.length with h | h
          · rw [List.getElem?_eq_getElem h] at hx; cases hx
          · exact h
        have hh : hasB L s = false := by unfold hasB; rw [hx]
        have HH := Lib.hid hh
        have HX := Lib.hid hx
        have hd : ((idx L s : Nat) : Int) = (L.length : Nat) := by omega
        clear hx hh hlt hk hle
        rw [hd]
        go_wp2
        go_quiet (fail)
        go_wp2
        go_ret2
        exact ⟨by rw [HH.out, hd]; rfl, below_drewN (Below.refl _ _) _⟩
      | some p =>
        have hkl : idx L s < L.length := (List.getElem?_eq_some_iff.1 hx).1
        obtain ⟨g, rfl⟩ := HA.out (by omega)
        have hc := HL.out.cellAt hx 0 (by omega)
        change w.cell? ⟨g, idx L s * 4, none⟩ = some (Value.string p.1) at hc
        have hb : Op.bytesLess p.1.toList s.toList = false := by rw [ByteArray.toList_eq, ByteArray.toList_eq]; exact idx_at hx
        have hh : hasB L s = decide (p.1 = s) := by unfold hasB; rw [hx]
        have HH := Lib.hid hh
        have HX := Lib.hid hx
        clear hx hh hlt hk hle
        go_wp2
        go_quiet (fail)
        go_wp2
        go_ret2
        exact ⟨by rw [HH.out, ← eq_toList]; rfl, below_drewN (Below.refl _ _) _⟩
end Go.Proofs.YtaamjccffkdlhaaGreatDoor
