/- Walks: who notes what he is asked, and answers nothing. -/
import Derived.Test.YtbkcnopkibdlbaaDoorAl
import Derived.ArgAppend
import Derived.Maps.AppendAt
import Derived.Deep.RegionLaw
namespace Go.Proofs.YtbkcnopkibdlbaaDoor
open Go.RowKit Go.Lib Go.Maps

theorem step_run {P : Program} {ops : Array Oper} {o : Oper} {a : Act} {w : World} {K : Act → World → Prop} {Q : Exit → Act → World → Prop} {E : Prop}
    (hg : o.guard = none) (s x : Operand) (t : TypeId) (hop : o.op = Op.call { callee := Callee.builtin Builtin.append, args := #[s, x], argTypes := #[t, t] }) (vs vx : Value) (hs : a.eval s = vs) (hx : a.eval x = vx) (v' : Value) (w' : World)
    (hrun : (Builtin.append_ #[t, t] o.type #[vs, vx]).run P w = .ok v' w') (hK : K (a.put o.dst v') w') : if Region.wanted o (yielded ops a.tmps) = true then Oper.wp P o a w K Q else E := by
  have hw : Region.wanted o (yielded ops a.tmps) = true := by simp [Region.wanted, hg]
  rw [if_pos hw]
  unfold Oper.wp
  simp [execOp, hop, resolve, invoke, builtin, hs, hx, hrun, Result.andThen]
  exact hK
theorem cells_new {w : World} {g : Nat} {t : TypeId} {cs : Array Value} (h : Blk w g t cs) : ∀ j u, cs.toList[j]? = some u → w.cell? ((⟨g, 0, none⟩ : Addr).add j) = some u := by
  intro j u hu
  have hadd : (⟨g, 0, none⟩ : Addr).add j = ⟨g, j, none⟩ := by unfold Addr.add; split <;> simp_all
  rw [hadd, h.cell j]
  simpa using hu
theorem askInfo : (Tryd.prog.info? 58).map (fun i => (i.zero, i.size, i.bytes)) = some (some (.agg #[.int .u8 0, .string ⟨#[]⟩, .int .i64 0]), 3, 32) := by kernel_rfl
theorem ask_one (k st : Int) (nm : ByteArray) : ∀ u ∈ [Value.int .u8 k, .string nm, .int .i64 st], u.oneCell' = true := by
  intro u hu
  simp only [List.mem_cons, List.not_mem_nil, or_false] at hu
  rcases hu with rfl | rfl | rfl <;> rfl
/-- Block t notes n questions. -/
def TlAt (t n : Nat) (A : Option Addr) (c : Nat) (xs : List Value) (w : World) : Prop :=
  Blk w t 36 #[.slice A n c, .slice none 0 0] ∧ w.ownsRow 0 58 3 (.slice A n c) n xs
def TlS (t : Nat) (A : Option Addr) : Nat → Prop := fun i => i = t ∨ (Value.slice A 0 0).ownBlock = some i
theorem own_any (A : Option Addr) (n c m d : Nat) : (Value.slice A n c).ownBlock = (Value.slice A m d).ownBlock := by cases A <;> rfl
theorem TlAt.below {t n : Nat} {A : Option Addr} {c : Nat} {xs : List Value} {w w' : World} (h : TlAt t n A c xs w) (hb : Below w.heap.size w w') : TlAt t n A c xs w' := ⟨h.1.below hb h.1.lt, own_below h.2 hb⟩
theorem TlAt.ne {t n : Nat} {A : Option Addr} {c : Nat} {xs : List Value} {w : World} (h : TlAt t n A c xs w) {g : Nat} {t' : TypeId} {cs : Array Value} (hb : Blk w g t' cs) (h1 : t' ≠ 36) (h2 : t' ≠ 58) : ¬ TlS t A g := by
  rintro (rfl | e)
  · have := h.1
    unfold Blk at this hb
    rw [this] at hb
    injection hb with hb
    injection hb with _ hb _
    exact h1 hb.symm
  · rcases h.2.2 with ⟨e', _⟩ | ⟨g', cap, cur, e', _, hgg, _⟩
    · injection e' with e1 _ _
      subst e1
      cases e
    · injection e' with e1 _ _
      subst e1
      injection e with e
      have e : g' = g := e
      subst e
      unfold Blk at hb
      rw [hgg] at hb
      injection hb with hb
      injection hb with _ hb _
      exact h2 hb.symm
/-- One more was noted. -/
def TlTo (t n : Nat) (A : Option Addr) (w w' : World) : Prop := ∃ A' c' xs', TlAt t (n + 1) A' c' xs' w' ∧ Turn (TlS t A) w w' ∧ ∀ i, TlS t A' i → TlS t A i ∨ w.heap.size ≤ i
set_option maxHeartbeats 1000000 in
/-- Answer, of who has none. -/
theorem nAnswer {t n : Nat} {A : Option Addr} {c : Nat} {xs : List Value} {w : World} (h : TlAt t n A c xs w) (hn : n ≤ 500) (k st : Int) (nm : ByteArray) :
    Calls Tryd.prog 23 #[.pointer (some ⟨t, 0, none⟩), .agg #[.int .u8 k, .string nm, .int .i64 st]] w fun e w' => e = .returned (.string ⟨#[]⟩) ∧ TlTo t n A w w' := by
  obtain ⟨i0, hi0, hz0, hz1, hz2⟩ := info_parts askInfo
  have hb0 := (Below.refl w.heap.size w).alloc (Nat.le_refl _) (.cells #[.int .u8 k, .string nm, .int .i64 st] 58)
  have h1 := h.below hb0
  have c0 : (w.alloc (.cells #[.int .u8 k, .string nm, .int .i64 st] 58)).cell? ⟨t, 0, none⟩ = some (.slice A n c) := h1.1.cell 0
  have c0' : ((w.alloc (.cells #[.int .u8 k, .string nm, .int .i64 st] 58)).alloc (.cells #[.int .u8 k, .string nm, .int .i64 st] 58)).cell? ⟨t, 0, none⟩ = some (.slice A n c) := (h1.below ((Below.refl _ _).alloc (Nat.le_refl _) _)).1.cell 0
  have hB := Blk.new w 58 #[.int .u8 k, .string nm, .int .i64 st]
  have p0 : (w.alloc (.cells #[.int .u8 k, .string nm, .int .i64 st] 58)).cell? ⟨w.heap.size, 0, none⟩ = some (.int .u8 k) := hB.cell 0
  have p1 : (w.alloc (.cells #[.int .u8 k, .string nm, .int .i64 st] 58)).cell? ⟨w.heap.size, 1, none⟩ = some (.string nm) := hB.cell 1
  have p2 : (w.alloc (.cells #[.int .u8 k, .string nm, .int .i64 st] 58)).cell? ⟨w.heap.size, 2, none⟩ = some (.int .i64 st) := hB.cell 2
  have HFin : Hid (∀ (wb : World) (ty : TypeId), Below w.heap.size w wb → Blk (wb.alloc (.cells #[.int .u8 k, .string nm, .int .i64 st] 58)) wb.heap.size 58 #[.int .u8 k, .string nm, .int .i64 st] →
      ∃ A' c' w3, (Builtin.append_ #[32, 32] ty #[.slice A n c, .slice (some ⟨wb.heap.size, 0, none⟩) 1 1]).run Tryd.prog (wb.alloc (.cells #[.int .u8 k, .string nm, .int .i64 st] 58)) = .ok (.slice A' (n + 1) c') w3 ∧
      w3.cell? ⟨t, 0, none⟩ = some (.slice A n c) ∧ w3.frozen? ⟨t, 0, none⟩ = false ∧ w3.cell? ⟨t, 1, none⟩ = some (.slice none 0 0) ∧ TlTo t n A w (w3.setCell ⟨t, 0, none⟩ (.slice A' (n + 1) c'))) := Lib.hid (fun wb ty hb hbk => by
    have hba := hb.alloc hb.size (.cells #[.int .u8 k, .string nm, .int .i64 st] 58)
    have h2 := h.below hba
    obtain ⟨v', w3, q1, q2, q3, q4, q5⟩ := run_append_own_at (P := Tryd.prog) (wb.alloc (.cells #[.int .u8 k, .string nm, .int .i64 st] 58)) 0 32 ty 58 i0 _ 3 32 Tryd.underlying32 hi0 hz0 hz1 hz2 rfl (by omega) (.slice A n c) n _ h2.2 ⟨wb.heap.size, 0, none⟩ 1 1 [.int .u8 k, .string nm, .int .i64 st] rfl
      (cells_new hbk) (ask_one _ _ _) (by unfold maxLen; omega) (by omega) (Nat.zero_le _)
    obtain ⟨A', c', rfl⟩ := own_form q2
    have hT : Turn (TlS t A) (wb.alloc (.cells #[.int .u8 k, .string nm, .int .i64 st] 58)) w3 := ⟨q3.os, q3.tape, q3.output, q3.size, fun i hi hn => q3.block i hi (fun e => hn (.inr (by rw [e]; exact own_any _ _ _ _ _)))⟩
    have hnt : ∀ g, (Value.slice A n c).ownBlock = some g → g ≠ t := fun g hg e => by
      subst e
      rcases h2.2.2 with ⟨e', _⟩ | ⟨g', cap, cur, e', _, hgg, _⟩
      · injection e' with e1 _ _
        subst e1
        cases hg
      · injection e' with e1 _ _
        subst e1
        injection hg with hg
        have e : g' = g := hg
        subst e
        have := h2.1
        unfold Blk at this
        rw [hgg] at this
        injection this with this
        injection this with _ this _
        exact absurd this (by decide)
    have hB3 : Blk w3 t 36 #[.slice A n c, .slice none 0 0] := h2.1.grown q3 (fun e => hnt t e.symm rfl)
    have hB4 : Blk (w3.setCell ⟨t, 0, none⟩ (.slice A' (n + 1) c')) t 36 #[.slice A' (n + 1) c', .slice none 0 0] := by
      have := hB3.set_ 0 (.slice A' (n + 1) c')
      simpa using this
    have hnt' : ∀ g, (Value.slice A' (n + 1) c').ownBlock = some g → g ≠ t := fun g hg e => by
      rcases q5 with e5 | e5
      · rw [e5] at hg; exact hnt g hg e
      · rw [e5] at hg
        injection hg with hg
        have := h2.1.lt
        omega
    have hT4 : Turn (TlS t A) w3 (w3.setCell ⟨t, 0, none⟩ (.slice A' (n + 1) c')) := (Turn.refl _ _).set t 0 _ (.inl rfl)
    refine ⟨A', c', w3, q1, hB3.cell 0, hB3.frozen 0, hB3.cell 1, A', c', _, ⟨hB4, own_turn q2 (S := (· = t)) ((Turn.refl _ _).set t 0 _ rfl) (fun g hg e => hnt' g hg e)⟩, ((Turn.of_below (S := TlS t A) hba).trans hT (fun _ _ h => h)).trans hT4 (fun _ _ h => h), fun i hi => ?_⟩
    rcases hi with e | e
    · exact .inl (.inl e)
    · rw [own_any _ _ _ (n + 1) c'] at e
      rcases q5 with e5 | e5
      · rw [e5] at e
        exact .inl (.inr (by rw [← e]; exact own_any _ _ _ _ _))
      · rw [e5] at e
        injection e with e
        have := hba.size
        have h5 := hb.size
        simp at e
        exact .inr (by omega))
  clear h h1 hB
  go_enter Tryd.func23, Tryd.ntmps23
  go_wp2_with fail
  generalize w.alloc (.cells #[.int .u8 k, .string nm, .int .i64 st] 58) = W1 at *
  obtain ⟨A', c', w3, qrun, qc, qf, qd, ql⟩ := HFin.out W1.drew 32 hb0.drew (Blk.new _ _ _)
  have QL := Lib.hid ql
  clear ql HFin
  go_region_law (refine step_run rfl (.tmp 11) (.tmp 13) _ rfl _ _ rfl rfl _ _ qrun ?_)
  all_goals
    go_wp2_with fail
    go_ret
    exact ⟨rfl, QL.out⟩
end Go.Proofs.YtbkcnopkibdlbaaDoor
