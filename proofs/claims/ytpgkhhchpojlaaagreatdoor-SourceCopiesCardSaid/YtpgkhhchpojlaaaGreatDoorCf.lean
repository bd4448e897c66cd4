/- Walk of the code's stack: push. -/
import Derived.Test.YtpgkhhchpojlaaaGreatDoorCc
import Derived.Test.YtpgkhhchpojlaaaGreatDoorCe
namespace Go.Proofs.YtpgkhhchpojlaaaGreatDoor
open Go.RowKit Go.Maps Go.WideMaps

section
variable {U K : Nat → Prop} {w w' : World} {x r cap : Nat} {zs : List Fv} {fs : List Fr}
theorem eStays : ∀ args w, (callFunc 70 args).run Tryz.prog w = .ok (.enter 70 args) w := enters_of Tryz.func70 (by kernel_rfl) rfl
theorem Inv.base {fs : List Fr} : 0 < baseN fs → ∃ g, fs[baseN fs - 1]? = some g ∧ (!(g.is 3 && g.over)) = true := fun h => topN_at h
set_option maxRecDepth 100000 in
set_option maxHeartbeats 1600000 in
/-- push. -/
theorem cPush (f : Fr) (A1 : Option Addr) (n1 c1 : Nat) (A2 : Option Addr) (n2 c2 : Nat) (hf : f.Ok) (hz : Holds2 K w (f, .slice A1 n1 c1, .slice A2 n2 c2)) (h : CKt U K w x fs) :
    Calls Tryz.prog 48 #[.pointer (some ⟨x, 0, none⟩), .agg #[.int .i64 f.kind, .string f.name, .slice A1 n1 c1, .int .i64 (f.pos : Nat), .slice A2 n2 c2]] w fun e w' => e = .returned (.int .i64 (psE fs)) ∧ ZTo U K w w' x (psF fs f) := by
  obtain ⟨i0, hi0, hz0, hz1, hz2⟩ := info_parts cframe_info
  have HSame := Lib.hid (fun (w1 : World) (hb : Below w.heap.size w w1) => ZTo.same h hb)
  obtain ⟨zs, r, cap, h, rfl⟩ := h
  obtain ⟨w0, hw0⟩ : ∃ w0, w0 = w.alloc (.cells #[.int .i64 f.kind, .string f.name, .slice A1 n1 c1, .int .i64 (f.pos : Nat), .slice A2 n2 c2] 62) := ⟨_, rfl⟩
  have hB0 : Below w.heap.size w w0 := by rw [hw0]; exact (Below.refl _ _).alloc (Nat.le_refl _) _
  have hs0 : w0.heap.size = w.heap.size + 1 := by rw [hw0]; simp
  have hzb : Blk w0 w.heap.size 62 #[.int .i64 f.kind, .string f.name, .slice A1 n1 c1, .int .i64 (f.pos : Nat), .slice A2 n2 c2] := by rw [hw0]; exact Blk.new _ _ _
  have h0 := h.below hB0
  have HT := Lib.hid (cTopmost h0 70 _ eStays aStays)
  have hlen := h.len
  have hbl := topN_le (p := fun f : Fr => !(f.is 3 && f.over)) (zs.map (·.1))
  rw [List.length_map] at hbl
  by_cases h50 : 50 ≤ baseN (zs.map (·.1))
  · have e50 : baseN (zs.map (·.1)) = 50 := by unfold baseN at h50 ⊢; omega
    have HR : Hid (psE (zs.map (·.1)) = 2 ∧ psF (zs.map (·.1)) f = zs.map (·.1)) := Lib.hid (by unfold psE psF; rw [if_pos h50, if_pos h50]; exact ⟨rfl, rfl⟩)
    have e1 : ((topN (fun f : Fr => !(f.is 3 && f.over)) (zs.map (·.1)) : Nat) - 1 : Int) = 49 := by
      have : topN (fun f : Fr => !(f.is 3 && f.over)) (zs.map (·.1)) = 50 := e50
      rw [this]; rfl
    rw [e1] at HT
    rw [HR.out.1, HR.out.2]
    clear h h0 hz hbl h50 e50 e1 hzb
    subst hw0
    go_enter Tryz.func48, Tryz.ntmps48
    go_wp2_with (go_at_call 49; refine HT.out.mono ?_; rintro e w1 ⟨rfl, hb1⟩)
    go_ret
    exact ⟨rfl, HSame.out _ (hB0.trans (hb1.mono hB0.size))⟩
  · have HR : Hid (psE (zs.map (·.1)) = 0 ∧ psF (zs.map (·.1)) f = (zs.map (·.1)).take (baseN (zs.map (·.1))) ++ [f]) := Lib.hid (by unfold psE psF; rw [if_neg h50, if_neg h50]; exact ⟨rfl, rfl⟩)
    have HIn := Lib.hid (h.inv.push (f := f) (by rw [List.length_map]; exact hbl) Inv.base)
    have HOk := Lib.hid (h.ok.push hf (show baseN (zs.map (·.1)) < 50 by omega))
    have hbn : topN (fun f : Fr => !(f.is 3 && f.over)) (zs.map (·.1)) = baseN (zs.map (·.1)) := rfl
    rw [hbn] at HT hbl
    generalize baseN (zs.map (·.1)) = n at *
    rw [HR.out.1, HR.out.2]
    have hn1 : ¬ ((n : Nat) : Int) = 50 := by omega
    have hn2 : IntKind.i64.wrap ((n : Int) - 1 + 1) = (n : Int) := by rw [IntWalk.i64_in _ (by omega)]; omega
    have HC := Lib.hid (fun (w1 : World) (hb : Below w0.heap.size w0 w1) => cCut (h0.below hb) hbl)
    have hsets := CKt.sets ⟨zs, r, cap, h, rfl⟩
    have hlt : ∀ w1, Below w0.heap.size w0 w1 → w.heap.size < w1.heap.size := fun w1 hb => by have := hb.size; omega
    have HZ : Hid (∀ w1 w2, Below w0.heap.size w0 w1 → Turn U w1 w2 → Blk w2 w.heap.size 62 #[.int .i64 f.kind, .string f.name, .slice A1 n1 c1, .int .i64 (f.pos : Nat), .slice A2 n2 c2]) := Lib.hid (fun w1 w2 hb hT => hT.blk (hzb.below hb hzb.lt) (fun hu => by have := hsets.2.1 _ hu; omega))
    have HFin : Hid (∀ w1 w2, Below w0.heap.size w0 w1 → CK U K w2 x (zs.take n) r cap → Turn U w1 w2 → ∃ c' r' w3, (Builtin.append_ #[47, 47] 47 #[.slice (some ⟨r, 0, none⟩) n cap, .slice (some ⟨w2.heap.size, 0, none⟩) 1 1]).run Tryz.prog (w2.alloc (.cells #[.int .i64 f.kind, .string f.name, .slice A1 n1 c1, .int .i64 (f.pos : Nat), .slice A2 n2 c2] 62)).drew = .ok (.slice (some ⟨r', 0, none⟩) (n + 1) c') w3 ∧
        w3.cell? ⟨x, 0, none⟩ = some (.slice (some ⟨r, 0, none⟩) n cap) ∧ w3.frozen? ⟨x, 0, none⟩ = false ∧ ZTo U K w (w3.setCell ⟨x, 0, none⟩ (.slice (some ⟨r', 0, none⟩) (n + 1) c')) x ((zs.map (·.1)).take n ++ [f])) := Lib.hid (fun w1 w2 hb hc hT => by
      have hl : (zs.take n).length = n := by rw [List.length_take]; omega
      obtain ⟨wA, hwA⟩ : ∃ wA, wA = (w2.alloc (.cells #[.int .i64 f.kind, .string f.name, .slice A1 n1 c1, .int .i64 (f.pos : Nat), .slice A2 n2 c2] 62)).drew := ⟨_, rfl⟩
      have hbA : Below w2.heap.size w2 wA := by rw [hwA]; exact below_da w2 _
      have hnew : Blk wA w2.heap.size 62 #[.int .i64 f.kind, .string f.name, .slice A1 n1 c1, .int .i64 (f.pos : Nat), .slice A2 n2 c2] := by rw [hwA]; exact Blk.new w2.drew _ _
      have hcA := hc.below hbA
      have hoA := hcA.own
      rw [hl] at hoA
      rw [← hwA]
      obtain ⟨v', w3, q1, q2, q3, q4, q5⟩ := run_append_own_at (P := Tryz.prog) wA 0 47 47 62 i0 _ 5 80 Tryz.underlying47 hi0 hz0 hz1 hz2 rfl (by omega) (.slice (some ⟨r, 0, none⟩) n cap) n _ hoA ⟨w2.heap.size, 0, none⟩ 1 1 [.int .i64 f.kind, .string f.name, .slice A1 n1 c1, .int .i64 (f.pos : Nat), .slice A2 n2 c2] rfl (cells_new hnew) (by intro u hu; simp only [List.mem_cons, List.not_mem_nil, or_false] at hu; rcases hu with rfl | rfl | rfl | rfl | rfl <;> rfl) (by unfold maxLen; omega) (by omega) (Nat.zero_le _)
      obtain ⟨r', c', rfl, _, _, _⟩ := own_pos q2 (by omega)
      have hTA : Turn (fun i => r = i) w2 w3 := (Turn.of_below hbA : Turn (fun i => r = i) w2 wA).trans (Turn.of_row q3) (fun i _ e => by injection e)
      have hT12 : Turn U w w2 := (Turn.of_below (hB0.trans (hb.mono hB0.size)) : Turn U w w1).trans hT (fun _ _ h => h)
      have hTw : Turn U w w3 := hT12.trans hTA (fun i _ e => by subst e; exact hc.uv)
      have hr : r' = r ∨ w2.heap.size ≤ r' := by
        rcases q5 with e | e
        · injection e with e; exact .inl e
        · injection e with e; subst e; exact .inr hbA.size
      have hx3 : Blk w3 x 49 #[.slice (some ⟨r, 0, none⟩) (zs.take n).length cap] := hTA.blk hc.blk (fun e => hc.ne e.symm)
      rw [hl] at hx3
      have hl' : (zs.take n ++ [((f, .slice A1 n1 c1, .slice A2 n2 c2) : Fv)]).length = n + 1 := by rw [List.length_append, hl]; rfl
      have hm' : (zs.take n ++ [((f, .slice A1 n1 c1, .slice A2 n2 c2) : Fv)]).map (·.1) = (zs.map (·.1)).take n ++ [f] := by rw [List.map_append, List.map_take]; rfl
      have hlay := hc.lay (zs' := zs.take n ++ [((f, .slice A1 n1 c1, .slice A2 n2 c2) : Fv)]) hTA hr (by rw [hl', ckCs_app, ckCs_one]; exact q2) (fun z hz' => by
        rcases List.mem_append.1 hz' with hz' | hz'
        · exact (hc.hold z hz').stay (Kept.of_turn hTA (fun i hk e => by subst e; exact hc.uk _ hc.uv hk)) (fun _ h => h)
        · rw [List.mem_singleton.1 hz']
          exact hz.stay (Kept.of_turn hTw (fun i hk hu => hsets.1 i hu hk)) (fun _ h => h)) (by rw [hm']; exact HOk.out) (by rw [hm']; exact HIn.out)
      rw [hl', hm'] at hlay
      exact ⟨c', r', w3, q1, hx3.cell 0, hx3.frozen 0, ZTo.trans hT12 (fun _ h => .inl h) (fun _ h => .inl h) hlay⟩)
    have hl : (zs.take n).length = n := by rw [List.length_take]; omega
    clear hbn hf h50 h h0 hz hzb hsets hlt HIn HOk HSame
    subst hw0
    go_enter Tryz.func48, Tryz.ntmps48
    go_wp2_with (first
      | (go_at_call 49; refine HT.out.mono ?_; rintro e w1 ⟨rfl, hb1⟩; have HB1 := Lib.hid hb1; clear hb1)
      | (go_at_call 51; refine (HC.out _ HB1.out).mono ?_; rintro e w2 ⟨rfl, hc2, hT2⟩; have hz2 := HZ.out _ _ HB1.out hT2; have z0 := hz2.cell 0; have z1 := hz2.cell 1; have z2 := hz2.cell 2; have z3 := hz2.cell 3; have z4 := hz2.cell 4; simp only [List.getElem?_toArray, List.getElem?_cons_zero, List.getElem?_cons_succ] at z0 z1 z2 z3 z4; have hc0 := hc2.c0; rw [hl] at hc0; have hc0A : (w2.alloc (.cells #[.int .i64 f.kind, .string f.name, .slice A1 n1 c1, .int .i64 (f.pos : Nat), .slice A2 n2 c2] 62)).cell? ⟨x, 0, none⟩ = some (.slice (some ⟨r, 0, none⟩) n cap) := ((below_da w2 _).cell (p := ⟨x, 0, none⟩) hc2.blk.lt).trans hc0; obtain ⟨c', r', w3, q1, q2, q3, q4⟩ := HFin.out _ _ HB1.out hc2 hT2; have Q4 := Lib.hid q4; clear q4 hc2 hT2 hz2))
    go_region_law (refine step_run2 rfl (.tmp 18) (.tmp 20) 47 ⟨?_, ?_⟩; rfl; refine Exists.intro _ (Exists.intro _ (And.intro q1 ?_)))
    all_goals
      go_wp2_with fail
      go_ret
      exact ⟨rfl, Q4.out⟩
end
end Go.Proofs.YtpgkhhchpojlaaaGreatDoor
