/- Walks of the code's stack: slices.Delete up to the end; cut. -/
import Derived.Test.YtpgkhhchpojlaaaGreatDoorCa
import Derived.Deep.RegionLaw
import Derived.Deep.RegionHeldLaw
namespace Go.Proofs.YtpgkhhchpojlaaaGreatDoor
open Go.RowKit Go.Maps Go.WideMaps

section
variable {U K : Nat → Prop} {w w' : World} {x r cap : Nat} {zs : List Fv} {fs : List Fr}
/-- clear, of frames. -/
theorem run_clearF {n c b o : Nat} (hn : 0 < n) (hc : ∀ j, j < n * 5 → (w.cell? ⟨b, o + j, none⟩).isSome = true) (hf : ∀ j, j < n * 5 → w.frozen? ⟨b, o + j, none⟩ = false) :
    ∃ vs, ∀ ty, (Builtin.clear_ #[47] ty #[.slice (some ⟨b, o, none⟩) n c]).run Tryz.prog w = .ok (.tuple #[]) (w.setCells b o vs) := by
  have hl : (Builtin.zeroCells (Value.agg #[.int .i64 0, .string ⟨#[]⟩, .slice none 0 0, .int .i64 0, .slice none 0 0]).cells n).toList.length = n * 5 := by
    simp [Builtin.zeroCells, Value.cells]
  have h1 : ∀ v ∈ (Builtin.zeroCells (Value.agg #[.int .i64 0, .string ⟨#[]⟩, .slice none 0 0, .int .i64 0, .slice none 0 0]).cells n).toList, v.oneCell' = true := by
    intro v hv
    simp only [Builtin.zeroCells, Array.toList_map, List.mem_map] at hv
    obtain ⟨i, _, rfl⟩ := hv
    have h5 : i % 5 < 5 := Nat.mod_lt _ (by omega)
    have e5 : (Value.agg #[.int .i64 0, .string ⟨#[]⟩, .slice none 0 0, .int .i64 0, .slice none 0 0]).cells = #[.int .i64 0, .string ⟨#[]⟩, .slice none 0 0, .int .i64 0, .slice none 0 0] := by simp [Value.cells]
    rw [e5]
    show (#[Value.int .i64 0, .string ⟨#[]⟩, .slice none 0 0, .int .i64 0, .slice none 0 0][i % 5]!).oneCell' = true
    rcases (show i % 5 = 0 ∨ i % 5 = 1 ∨ i % 5 = 2 ∨ i % 5 = 3 ∨ i % 5 = 4 by omega) with e | e | e | e | e <;> rw [e] <;> rfl
  have hst := run_storeCells_cells (P := Tryz.prog) b o (Builtin.zeroCells (Value.agg #[.int .i64 0, .string ⟨#[]⟩, .slice none 0 0, .int .i64 0, .slice none 0 0]).cells n).toList 0 w (by simpa [hl] using hc) (by simpa [hl] using hf) h1
  simp only [Nat.add_zero] at hst
  obtain ⟨m, rfl⟩ : ∃ m, n = m + 1 := ⟨n - 1, by omega⟩
  refine ⟨(Builtin.zeroCells (Value.agg #[.int .i64 0, .string ⟨#[]⟩, .slice none 0 0, .int .i64 0, .slice none 0 0]).cells (m + 1)).toList, fun ty => ?_⟩
  simp [Builtin.clear_, run_underlying Tryz.underlying47, Tryz.zeroValue62, hst]
set_option maxRecDepth 100000 in
set_option maxHeartbeats 2000000 in
theorem cDelete (h : CK U K w x zs r cap) {n : Nat} (hn : n ≤ zs.length) :
    Calls Tryz.prog 72 #[.slice (some ⟨r, 0, none⟩) zs.length cap, .int .i64 (n : Nat), .int .i64 (zs.length : Nat)] w fun e w' => e = .returned (.slice (some ⟨r, 0, none⟩) n cap) ∧ w'.ownsRow 0 62 5 (.slice (some ⟨r, 0, none⟩) n cap) n (ckCs (zs.take n)) ∧ Turn (· = r) w w' := by
  obtain ⟨hc1, hc2⟩ := h.cap_
  have hlen := h.len
  have hot := own_take h.own hn
  rw [← ckCs_take] at hot
  have HO := Lib.hid hot
  have hi1 : ¬ ((zs.length : Nat) : Int) < ((n : Nat) : Int) := by omega
  rcases Nat.lt_or_ge n zs.length with hlt | hge
  · have hne : (((n : Nat) : Int) == ((zs.length : Nat) : Int)) = false := by simp; omega
    obtain ⟨cur, hcb⟩ := h.rblk
    have hcs : cap * 5 ≤ cur.size := by
      rcases h.own.2 with ⟨h', _⟩ | ⟨g', cap', cur', h', _, hg, _, _, hsz, _⟩
      · cases h'
      · injection h' with h1 h2 h3
        injection h1 with h1
        injection h1 with h1 _
        subst h1 h3
        rw [show w.heap[r]? = _ from hcb] at hg
        injection hg with hg
        injection hg with hg
        subst hg
        omega
    obtain ⟨vs, hcl⟩ := run_clearF (w := w.drew) (n := zs.length - n) (c := cap - n) (b := r) (o := n * 5) (by omega) (fun j hj => by
      rw [(hcb.drew).cell]
      simp
      omega) (fun j hj => (hcb.drew).frozen _)
    have HCl := Lib.hid hcl
    obtain ⟨i0, hi0, _⟩ := info_parts cframe_info
    have qrun : ∀ (A2 : Option Addr) (c2 : Nat), (Builtin.append_ #[47, 47] 47 #[.slice (some ⟨r, 0, none⟩) n cap, .slice A2 0 c2]).run Tryz.prog w.drew = .ok (.slice (some ⟨r, 0, none⟩) n cap) w.drew := fun A2 c2 =>
      run_append_zero (P := Tryz.prog) _ 47 47 _ i0 Tryz.underlying47 hi0 (some ⟨r, 0, none⟩) n cap (by omega) A2 c2
    have HE : Hid ((w.drew.setCells r (n * 5) vs).ownsRow 0 62 5 (.slice (some ⟨r, 0, none⟩) n cap) n (ckCs (zs.take n)) ∧ Turn (· = r) w (w.drew.setCells r (n * 5) vs)) :=
      Lib.hid ⟨own_behind vs (n * 5) _ hot.drew (Nat.le_refl _), (Turn.of_below ((Below.refl _ w).drew) : Turn (· = r) w w.drew).trans (turn_setCells vs (n * 5) _) (fun _ _ h => h)⟩
    clear hcl hcb hot h
    go_enter Tryz.func72, Tryz.ntmps72
    go_wp2_with fail
    have hic : n ≤ cap := by omega
    have hncap : ¬ cap = n := by omega
    by_cases hcap : cap = zs.length
    · go_region_law (refine step_run2 rfl (.tmp 22) (.tmp 25) 47 ⟨?_, ?_⟩; rfl; refine Exists.intro _ (Exists.intro _ (And.intro ?_ ?_)); with_reducible exact qrun _ _)
      all_goals
        have hcl2 := HCl.out
        rw [hcap] at hcl2
        go_wp2_with fail
        go_ret
        exact ⟨by rw [hcap]; rfl, HE.out⟩
    · go_region_law (refine step_run2 rfl (.tmp 22) (.tmp 25) 47 ⟨?_, ?_⟩; rfl; refine Exists.intro _ (Exists.intro _ (And.intro ?_ ?_)); with_reducible exact qrun _ _)
      all_goals
        have hcl2 := HCl.out
        go_wp2_with fail
        go_ret
        exact ⟨rfl, HE.out⟩
  · obtain rfl : n = zs.length := by omega
    rw [List.take_length] at HO
    have hee : (((zs.length : Nat) : Int) == ((zs.length : Nat) : Int)) = true := by simp
    clear h hot
    rw [List.take_length]
    go_enter Tryz.func72, Tryz.ntmps72
    go_wp2_with fail
    go_ret
    exact ⟨rfl, HO.out, Turn.refl _ _⟩
set_option maxRecDepth 100000 in
set_option maxHeartbeats 2000000 in
theorem cCut (h : CK U K w x zs r cap) {n : Nat} (hn : n ≤ zs.length) :
    Calls Tryz.prog 51 #[.pointer (some ⟨x, 0, none⟩), .int .i64 (n : Nat)] w fun e w' => e = .returned (.tuple #[]) ∧ CK U K w' x (zs.take n) r cap ∧ Turn U w w' := by
  have HD := Lib.hid (cDelete (h.below (Below.refl _ _).drew) hn)
  have HF : Hid (∀ w1, w1.ownsRow 0 62 5 (.slice (some ⟨r, 0, none⟩) n cap) n (ckCs (zs.take n)) → Turn (· = r) w.drew w1 → w1.cell? ⟨x, 0, none⟩ = some (.slice (some ⟨r, 0, none⟩) zs.length cap) ∧ w1.frozen? ⟨x, 0, none⟩ = false ∧
      CK U K (w1.setCell ⟨x, 0, none⟩ (.slice (some ⟨r, 0, none⟩) n cap)) x (zs.take n) r cap ∧ Turn U w (w1.setCell ⟨x, 0, none⟩ (.slice (some ⟨r, 0, none⟩) n cap))) := Lib.hid (fun w1 ho hT1 => by
    have hT : Turn (· = r) w w1 := (Turn.of_below ((Below.refl _ w).drew) : Turn (· = r) w w.drew).trans hT1 (fun _ _ h => h)
    have hb : Blk w1 x 49 #[.slice (some ⟨r, 0, none⟩) zs.length cap] := hT.blk h.blk h.ne
    have hT2 := turn_set w1 x 0 (.slice (some ⟨r, 0, none⟩) n cap)
    have hl : (zs.take n).length = n := by rw [List.length_take]; omega
    have hTU : Turn U w (w1.setCell ⟨x, 0, none⟩ (.slice (some ⟨r, 0, none⟩) n cap)) := (hT.mono (fun i e => by subst e; exact h.uv)).trans hT2 (fun i _ e => by rw [e]; exact h.ux)
    refine ⟨hb.cell 0, hb.frozen 0, ⟨by rw [hl]; exact blk_set hb _, by rw [hl]; exact own_turn ho hT2 (fun g hg e => by injection hg with hg; subst hg; exact h.ne e.symm), fun z hz => (h.hold z (List.mem_of_mem_take hz)).stay (Kept.of_turn hTU (fun i hk hu => h.uk i hu hk)) (fun _ h => h), by rw [List.map_take]; exact h.ok.take n, by rw [List.map_take]; exact h.inv.take n, h.ux, h.uv, h.uk,
      fun i hi => Nat.lt_of_lt_of_le (h.ul i hi) hTU.size, fun i hi => Nat.lt_of_lt_of_le (h.kl i hi) hTU.size⟩, hTU⟩)
  have c0 := h.c0
  clear h
  go_enter Tryz.func51, Tryz.ntmps51
  go_wp2_with fail
  go_region_with (go_at_call 72; refine HD.out.mono ?_; rintro e w1 ⟨rfl, ho, hT⟩; obtain ⟨q1, q2, q3⟩ := HF.out _ ho hT; have Q3 := Lib.hid q3; clear q3 ho hT HF HD)
  all_goals
    go_wp2_with fail
    go_end0
    exact ⟨rfl, Q3.out⟩
end
end Go.Proofs.YtpgkhhchpojlaaaGreatDoor
