/- Walk: the document's Names. -/
import Derived.Test.YtaamjccffkdlhaaGreatDoorMi
import Derived.Test.YtaamjccffkdlhaaGreatDoorRq
namespace Go.Proofs.YtaamjccffkdlhaaGreatDoor
open Go.RowKit Go.Maps Go.WideMaps Go.Joins

theorem str_info : (Tryz.prog.info? 9).map (fun i => (i.zero, i.size, i.bytes)) = some (some (.string ⟨#[]⟩), 1, 16) := by kernel_rfl
def nms (L : List Ent) : List Value := L.map fun p => .string p.1
theorem nms_take {L : List Ent} {k : Nat} {p : Ent} (h : L[k]? = some p) : nms (L.take (k + 1)) = nms (L.take k) ++ [.string p.1] := by
  obtain ⟨hk, e⟩ := List.getElem?_eq_some_iff.1 h
  unfold nms
  rw [List.take_succ_eq_append_getElem hk, List.map_append, e]
  rfl
theorem own_ge {b n size : Nat} {t : TypeId} {v : Value} {xs : List Value} {w : World} (h : w.ownsRow b t size v n xs) {g : Nat} (hg : v.ownBlock = some g) : b ≤ g := by
  rcases h.2 with ⟨rfl, _⟩ | ⟨g', cap, cur, rfl, hb, _⟩
  · cases hg
  · injection hg with hg
    simp only at hg
    subst hg
    exact hb
set_option maxRecDepth 100000 in
set_option maxHeartbeats 1000000 in
/-- Names, of the document's book. -/
theorem nNames (b x : Nat) (v : Value) (L : List Ent) (hl : L.length ≤ 500) (w : World) (h : RfAt b w x v L) :
    Calls Tryz.prog 33 #[.pointer (some ⟨x, 0, none⟩)] w fun e w' => ∃ u, e = .returned u ∧ w'.ownsRow w.heap.size 9 1 u L.length (L.map fun p => .string p.1) ∧ Below w.heap.size w w' := by
  obtain ⟨i0, hi0, hz0, hz1, hz2⟩ := info_parts str_info
  obtain ⟨A, cap, rfl, hcap, hA⟩ := h.form
  have H := Lib.hid h
  have HA := Lib.hid hA
  clear h hA
  go_enter Tryz.func33, Tryz.ntmps33
  go_wp2
  go_loopw [3, 4] (fun v3 v4 wr => ∃ k : Nat, k ≤ L.length ∧ v4 = .int .i64 k ∧ wr.ownsRow w.heap.size 9 1 v3 k (nms (L.take k)) ∧ Below w.heap.size w wr) (fun _ v4 _ => L.length - (intOf v4).toNat)
  case atStart => exact ⟨0, Nat.zero_le _, rfl, World.ownsRow_nil _ _ _ _, Below.refl _ _⟩
  case round =>
    obtain ⟨k, hk, rfl, hown, hb⟩ := hrel
    have HR := Lib.hid (H.out.below hb)
    have c0 := HR.out.c0
    by_cases hlt : k < L.length
    · obtain ⟨g, rfl⟩ := HA.out (by omega)
      have hp := List.getElem?_eq_getElem hlt
      generalize L[k] = p at hp
      have hc := HR.out.cellAt hp 0 (by omega)
      change _ = some (Value.string p.1) at hc
      rw [Nat.add_zero] at hc
      have HPk := Lib.hid hp
      obtain ⟨A3, c3, rfl⟩ := own_form hown
      have HO := Lib.hid hown
      clear hp hown
      have HO2 := Lib.hid (HO.out.alloc (.cells #[.string p.1] 9))
      go_wp2_with (at_builtin
                   refine wpList_append_own_at _ rfl (.tmp 14) (.tmp 23) _ rfl w.heap.size 9 i0 _ 1 16 Tryz.underlying47 hi0 hz0 hz1 hz2 rfl (by omega) _ k _ rfl HO2.out ⟨wr.heap.size, 0, none⟩ 1 1 [.string p.1] rfl
                     rfl (cell_one_new wr _ 9) (by intro u hu; rw [List.mem_singleton] at hu; subst hu; rfl) (by unfold maxLen; omega) (by omega) (by have := hb.size; simp; omega) ?_
                   intro v1 w2 hown1 hg1 _ hat1
                   have HO3 := Lib.hid hown1
                   have hb2 : Below w.heap.size w w2 := (hb.alloc hb.size (.cells #[.string p.1] 9)).grown hg1 (by have := hb.size; simp; omega) (fun q hq => own_ge HO.out hq)
                   clear hown1)
      go_round
      case rel => exact ⟨k + 1, by omega, by go_num, by rw [nms_take HPk.out]; exact HO3.out, hb2⟩
      case measure => simp [intOf]; omega
    · have e : k = L.length := by omega
      subst e
      have HO := Lib.hid hown
      clear hown
      go_wp2
      go_ret
      exact ⟨_, rfl, by have := HO.out; rwa [List.take_length] at this, hb⟩
set_option maxRecDepth 100000 in
set_option maxHeartbeats 400000 in
/-- Text, of the document's book. -/
theorem nText (s : ByteArray) (hs : s.size ≤ maxLen) (b x : Nat) (v : Value) (L : List Ent) (hl : L.length ≤ 500) (hG : ∀ p ∈ L, goodR p) (w : World) (h : RfAt b w x v L) :
    Calls Tryz.prog 56 #[.pointer (some ⟨x, 0, none⟩), .string s] w fun e w' => e = .returned (.tuple #[.string (txS L s), .int .i64 (txE L s)]) ∧ Below w.heap.size w w' := by
  have HN := Lib.hid (fun w => nName s hs w)
  have HG := Lib.hid (nGet s b x v L hl w h)
  clear h
  cases hn : nameB s
  · have e1 : txS L s = ⟨#[]⟩ := by unfold txS; rw [hn]; rfl
    have e2 : txE L s = 6 := by unfold txE; rw [hn]; rfl
    rw [e1, e2]
    rw [hn] at HN
    go_enter Tryz.func56, Tryz.ntmps56
    go_wp2_with (go_at_call 48; refine (HN.out _).mono ?_; rintro e w1 ⟨rfl, rfl⟩)
    go_ret2
    exact ⟨rfl, Below.refl _ _⟩
  · have e1 : txS L s = wrS (getR L s).v (getR L s).f := by unfold txS; rw [if_pos hn]
    have e2 : txE L s = wrE (getR L s).v (getR L s).f := by unfold txE; rw [if_pos hn]
    have hf := good_f (good_get hG hn)
    rw [e1, e2]
    rw [hn] at HN
    have HW := Lib.hid (fun w => nWrite (getR L s).v (getR L s).f hf w)
    clear hG e1 e2 hf
    generalize getR L s = R at HG HW ⊢
    generalize wrS R.v R.f = A at HW ⊢
    generalize wrE R.v R.f = B at HW ⊢
    unfold rVal at HG
    go_enter Tryz.func56, Tryz.ntmps56
    go_wp2_with (first
      | (go_at_call 48; refine (HN.out _).mono ?_; rintro e w1 ⟨rfl, rfl⟩)
      | (go_at_call 50; refine HG.out.mono ?_; rintro e w1 ⟨rfl, hb1⟩)
      | (go_at_call 70; refine (HW.out _).mono ?_; rintro e w3 ⟨rfl, hb3⟩))
    go_ret2
    exact ⟨rfl, ntrans (hb1.alloc hb1.size _) hb3⟩
end Go.Proofs.YtaamjccffkdlhaaGreatDoor
