/- A book in memory; walks: names, and how a book is asked. -/
import Derived.Test.YtaamjccffkdlhaaGreatDoorRk
import Derived.Test.YtaamjccffkdlhaaGreatDoorPb
import Derived.Maps.OwnSet
import Derived.Maps.RangeWalk
import Derived.ProofKit
namespace Go.Proofs.YtaamjccffkdlhaaGreatDoor
open Go.RowKit Go.Maps Go.WideMaps

/-! ### what has turned -/
/-- w' is w but for new blocks and for the blocks of S. -/
structure Turn (S : Nat → Prop) (w w' : World) : Prop where
  os : w'.os = w.os
  tape : w'.tape = w.tape
  output : w'.output = w.output
  size : w.heap.size ≤ w'.heap.size
  block : ∀ i, i < w.heap.size → ¬ S i → w'.heap[i]? = w.heap[i]?
theorem Turn.refl (S : Nat → Prop) (w : World) : Turn S w w := ⟨rfl, rfl, rfl, Nat.le_refl _, fun _ _ _ => rfl⟩
theorem Turn.trans {S S2 : Nat → Prop} {a b c : World} (h : Turn S a b) (k : Turn S2 b c) (hs : ∀ i, i < a.heap.size → S2 i → S i) : Turn S a c :=
  ⟨k.os.trans h.os, k.tape.trans h.tape, k.output.trans h.output, Nat.le_trans h.size k.size, fun i hi hn => (k.block i (Nat.lt_of_lt_of_le hi h.size) (fun h2 => hn (hs i hi h2))).trans (h.block i hi hn)⟩
theorem Turn.of_below {S : Nat → Prop} {w w' : World} (h : Below w.heap.size w w') : Turn S w w' := ⟨h.os, h.tape, h.output, h.size, fun i hi _ => h.block i hi⟩
theorem Turn.of_grown {w w' : World} {b : Nat} (h : w.grownBy w' (some b)) : Turn (· = b) w w' := ⟨h.os, h.tape, h.output, h.size, fun i hi hn => h.block i hi (fun e => hn (by injection e))⟩
theorem Turn.below {S : Nat → Prop} {B : Nat} {a w w' : World} (hb : Below B a w) (h : Turn S w w') (hB : B ≤ w.heap.size) (hs : ∀ i, S i → B ≤ i) : Below B a w' :=
  hb.trans ⟨h.os, h.tape, h.output, h.size, fun i hi => h.block i (Nat.lt_of_lt_of_le hi hB) (fun h2 => by have := hs i h2; omega)⟩
theorem Turn.mono {S S2 : Nat → Prop} {w w' : World} (h : Turn S w w') (hs : ∀ i, S i → S2 i) : Turn S2 w w' := ⟨h.os, h.tape, h.output, h.size, fun i hi hn => h.block i hi (fun h2 => hn (hs i h2))⟩
theorem Turn.blk {S : Nat → Prop} {w w' : World} {g : Nat} {t : TypeId} {cs : Array Value} (h : Turn S w w') (hb : Blk w g t cs) (hn : ¬ S g) : Blk w' g t cs := (h.block g hb.lt hn).trans hb
theorem NumAt.turn {S : Nat → Prop} {w w' : World} (h : NumAt w) (k : Turn S w w') (hn : ¬ S 0) : NumAt w' := by
  have hl := h.lt
  obtain ⟨t, fr, h⟩ := h
  exact ⟨t, fr, (k.block 0 hl hn).trans h⟩

/-! ### names -/
def nmB (c : Nat) : Bool := decide (33 ≤ c) && decide (c ≤ 126) && decide (c ≠ 93)
def nameB (s : ByteArray) : Bool := decide (1 ≤ s.size) && decide (s.size ≤ 20) && allB nmB s
/-- validName's function. -/
theorem cNm (c : Nat) (w : World) : Calls Tryz.prog 62 #[.int .u8 c] w fun e w' => e = .returned (.bool (nmB c)) ∧ w = w' := by
  by_cases h1 : 33 ≤ (c : Int)
  · by_cases h2 : (c : Int) ≤ 126
    · by_cases h3 : (c : Int) = 93
      · have hw : nmB c = false := by
          have : c = 93 := by omega
          subst this; rfl
        have hB : ((c : Int) != 93) = false := by simp [h3]
        have hB2 : ((c : Int) == 93) = true := by simp [h3]
        rw [hw]; clear hw h3
        go_enter Tryz.func62, Tryz.ntmps62
        go_wp2_with fail
        go_ret
        exact ⟨rfl, rfl⟩
      · have hw : nmB c = true := by simp [nmB]; omega
        have hB : ((c : Int) != 93) = true := by simp [h3]
        have hB2 : ((c : Int) == 93) = false := by simp [h3]
        rw [hw]; clear hw h3
        go_enter Tryz.func62, Tryz.ntmps62
        go_wp2_with fail
        go_ret
        exact ⟨rfl, rfl⟩
    · have hw : nmB c = false := by simp [nmB]; omega
      rw [hw]; clear hw
      go_enter Tryz.func62, Tryz.ntmps62
      go_wp2_with fail
      go_ret
      exact ⟨rfl, rfl⟩
  · have hw : nmB c = false := by simp [nmB]; omega
    rw [hw]; clear hw
    go_enter Tryz.func62, Tryz.ntmps62
    go_wp2_with fail
    go_ret
    exact ⟨rfl, rfl⟩
/-- all, at validName's function. -/
theorem cAllN (s : ByteArray) (hs : s.size ≤ maxLen) (w : World) :
    Calls Tryz.prog 59 #[.string s, .func (.func 62) #[] #[]] w fun e w' => e = .returned (.bool (allB nmB s)) ∧ w = w' := by
  unfold maxLen at hs
  go_enter Tryz.func59, Tryz.ntmps59
  go_wp2
  go_loop [8] (fun v8 => ∃ k : Nat, k ≤ s.size ∧ v8 = .int .i64 k ∧ ∀ (j : Nat) (hj : j < s.size), j < k → nmB s[j].toNat = true) (fun v8 => s.size - (intOf v8).toNat)
  case atStart => exact ⟨0, Nat.zero_le _, rfl, fun j hj h => by omega⟩
  case round =>
    obtain ⟨k, hk, rfl, hb⟩ := hrel
    have HB := Lib.hid hb
    clear hb
    by_cases hlt : k < s.size
    · go_wp2_with (go_at_call 62; refine (cNm _ _).mono ?_; rintro e w' ⟨rfl, rfl⟩)
      · have hd : (!nmB s[k].toNat) = true := by assumption
        go_ret
        exact ⟨ret_b (allB_no k hlt (by simpa using hd)).symm, rfl⟩
      · have hd : (!nmB s[k].toNat) = false := by assumption
        go_round
        case rel => exact ⟨k + 1, by omega, by go_num, fun j hj h => by
          by_cases e : j = k
          · subst e; simpa using hd
          · exact HB.out j hj (by omega)⟩
        case measure => simp [intOf]; omega
    · go_wp2
      go_ret
      exact ⟨ret_b (allB_yes fun j hj => HB.out j hj (by omega)).symm, rfl⟩
/-- validName. -/
theorem cName (s : ByteArray) (hs : s.size ≤ maxLen) (w : World) :
    Calls Tryz.prog 43 #[.string s] w fun e w' => e = .returned (.bool (nameB s)) ∧ w = w' := by
  have hs' := hs
  unfold maxLen at hs
  by_cases h0 : s.size = 0
  · have hn : nameB s = false := by unfold nameB; rw [h0]; rfl
    rw [hn]
    have e : s = ⟨#[]⟩ := by
      obtain ⟨⟨l⟩⟩ := s
      have : l = [] := List.length_eq_zero_iff.1 h0
      subst this; rfl
    subst e
    go_enter Tryz.func43, Tryz.ntmps43
    go_wp2_with fail
    go_ret
    exact ⟨rfl, rfl⟩
  · obtain ⟨he1, he2⟩ := toList_ne h0
    by_cases h9 : s.size ≤ 20
    · have hn : nameB s = allB nmB s := by
        unfold nameB
        rw [show decide (1 ≤ s.size) = true from decide_eq_true (by omega), show decide (s.size ≤ 20) = true from decide_eq_true h9]; rfl
      rw [hn]
      have HA := Lib.hid (fun w => cAllN s hs' w)
      clear hn
      generalize allB nmB s = a at HA ⊢
      go_enter Tryz.func43, Tryz.ntmps43
      go_wp2_with (go_at_call 59; refine (HA.out _).mono ?_; rintro e w' ⟨rfl, rfl⟩)
      go_ret
      exact ⟨rfl, rfl⟩
    · have hn : nameB s = false := by
        unfold nameB
        rw [show decide (s.size ≤ 20) = false from decide_eq_false h9]; simp
      rw [hn]
      go_enter Tryz.func43, Tryz.ntmps43
      go_wp2_with fail
      go_ret
      exact ⟨rfl, rfl⟩

/-! ### a book in memory -/
/-- How a register reads in a map: as itself. -/
def RR (v : Value) : Option (DataW Value × List MemPlace) := some (.held v, [])
theorem law : Keyed Tryz.prog 9 := string_keyed Tryz.underlying9
theorem zeroE (w : World) : (zeroValue 60).run Tryz.prog w = .ok (.agg #[.int .i64 0, .int .i64 0, .string ⟨#[]⟩]) w := by kernel_rfl
def goodR (p : Ent) : Prop := nameB p.1 = true ∧ rngB p.2.v = true ∧ rngB p.2.s = true ∧ fmtB p.2.f = true
structure BkAt (w : World) (g bm : Nat) (L : List Ent) : Prop where
  blk : Blk w g 56 #[.map (some bm)]
  own : w.ownsMap Tryz.prog 9 RR bm L.length (DB L)
  srt : Srt L
  len : L.length ≤ 500
  good : ∀ p ∈ L, goodR p
theorem ownsMap_tight {H : Type} {P : Program} {k : TypeId} {R : Value → Option (DataW H × List MemPlace)} {w : World} {b n : Nat} {D : DataW H} (h : w.ownsMap P k R b n D) : w.ownsMap P k R b (Maps.size D) D := by
  obtain ⟨es, clock, hb, F, hs, rfl⟩ := h
  exact ⟨es, clock, hb, F, by simp [Maps.size, length_sorted], rfl⟩
theorem ownsMap_turn {H : Type} {P : Program} {k : TypeId} {R : Value → Option (DataW H × List MemPlace)} {w w' : World} {b n : Nat} {D : DataW H} {S : Nat → Prop} (h : w.ownsMap P k R b n D) (hT : Turn S w w') (hn : ¬ S b) : w'.ownsMap P k R b n D := by
  have hlt := h.lt
  obtain ⟨es, clock, hb, F, hs, hD⟩ := h
  exact ⟨es, clock, (hT.block b hlt hn).trans hb, F, hs, hD⟩
theorem BkAt.turn {S : Nat → Prop} {w w' : World} {g bm : Nat} {L : List Ent} (h : BkAt w g bm L) (hT : Turn S w w') (h1 : ¬ S g) (h2 : ¬ S bm) : BkAt w' g bm L :=
  ⟨hT.blk h.blk h1, ownsMap_turn h.own hT h2, h.srt, h.len, h.good⟩
theorem BkAt.below {w w' : World} {g bm : Nat} {L : List Ent} (h : BkAt w g bm L) (hb : Below w.heap.size w w') : BkAt w' g bm L := h.turn (S := fun _ => False) (Turn.of_below hb) id id
theorem map_ne_cells {w : World} {g bm n : Nat} {D : DataW Value} {t : TypeId} {cs : Array Value} {fr : Nat × Nat} (h : w.heap[g]? = some (.cells cs t fr)) (ho : w.ownsMap Tryz.prog 9 RR bm n D) : g ≠ bm := by
  rintro rfl
  obtain ⟨es, clock, hb, _⟩ := ho
  rw [h] at hb
  injection hb with hb
  cases hb
theorem BkAt.ne {w : World} {g bm : Nat} {L : List Ent} (h : BkAt w g bm L) : g ≠ bm := map_ne_cells h.blk h.own
theorem BkAt.c0 {w : World} {g bm : Nat} {L : List Ent} (h : BkAt w g bm L) : w.cell? ⟨g, 0, none⟩ = some (.map (some bm)) := h.blk.cell 0
theorem hasB_name {L : List Ent} (hg : ∀ p ∈ L, goodR p) {s : ByteArray} (h : hasB L s = true) : nameB s = true := by
  unfold hasB at h
  cases he : L[idx L s]? with
  | none => rw [he] at h; cases h
  | some p =>
    rw [he] at h
    have : p.1 = s := by simpa using h
    rw [← this]
    exact (hg p (List.mem_of_getElem? he)).1
/-- What a look-up hands back. -/
def rgOr (L : List Ent) (s : ByteArray) : Reg := if hasB L s then getR L s else ⟨0, 0, ⟨#[]⟩⟩
theorem wpList_look (w : World) {ops : Array Oper} {rest : List Oper} {o : Oper} {a : Act} {Q : Exit → Act → World → Prop} (hg : o.guard = none) (m x : Operand) (hop : o.op = Op.lookup 54 m x true)
    (bm n : Nat) (L : List Ent) (hm : a.eval m = .map (some bm)) (hown : w.ownsMap Tryz.prog 9 RR bm n (DB L)) (hL : Srt L) (s : ByteArray) (hs : s.size ≤ maxLen) (hx : a.eval x = .string s)
    (hK : wpList Tryz.prog ops Q rest (a.put o.dst (.tuple #[.agg #[.int .i64 (rgOr L s).v, .int .i64 (rgOr L s).s, .string (rgOr L s).f], .bool (hasB L s)])) w) : wpList Tryz.prog ops Q (o :: rest) a w := by
  refine wpList_lookup_own_ok w hg m x 54 hop 9 60 law Tryz.underlying54 RR (zeroE w) (.held (.agg #[.int .i64 0, .int .i64 0, .string ⟨#[]⟩])) [] rfl bm n (DB L) hm hown (.string s) (kOf s) hx (keyOf_string_mk Tryz.underlying9 hs) ?_
  intro v ps hv
  rw [has_DB hL]
  rw [at_DB hL] at hv
  have hv' : v = .agg #[.int .i64 (rgOr L s).v, .int .i64 (rgOr L s).s, .string (rgOr L s).f] := by
    unfold RR at hv
    injection hv with hv
    injection hv with hv _
    unfold rgOr
    split at hv
    · rename_i h
      rw [if_pos h]
      injection hv
    · rename_i h
      rw [if_neg h]
      injection hv
  rw [hv']
  exact hK
/-- check, of a book. -/
theorem cCheck (s : ByteArray) (hs : s.size ≤ maxLen) (g bm : Nat) (w : World) (c0 : w.cell? ⟨g, 0, none⟩ = some (.map (some bm))) :
    Calls Tryz.prog 42 #[.pointer (some ⟨g, 0, none⟩), .string s] w fun e w' => e = .returned (.int .i64 (erI (nameB s) 6)) ∧ w = w' := by
  have HN := Lib.hid (fun w => cName s hs w)
  have qm := fun (w : World) => run_eql_map_nil (P := Tryz.prog) w 54 _ _ (some bm) Tryz.underlying54
  generalize nameB s = a at HN ⊢
  go_enter Tryz.func42, Tryz.ntmps42
  cases a
  all_goals
    go_wp2_with (go_at_call 43; refine (HN.out _).mono ?_; rintro e w' ⟨rfl, rfl⟩)
    go_ret
    exact ⟨rfl, rfl⟩
/-- Has, of a book. -/
theorem cHas (s : ByteArray) (hs : s.size ≤ maxLen) (g bm : Nat) (L : List Ent) (w : World) (h : BkAt w g bm L) :
    Calls Tryz.prog 22 #[.pointer (some ⟨g, 0, none⟩), .string s] w fun e w' => e = .returned (.bool (hasB L s)) ∧ Below w.heap.size w w' := by
  have c0 := h.c0
  have hown := h.own
  have hsrt := h.srt
  have HS := Lib.hid hsrt
  clear h hsrt
  go_enter Tryz.func22, Tryz.ntmps22
  go_wp2_with (at_lookup; refine wpList_look _ rfl _ _ rfl bm L.length L rfl hown HS.out s hs rfl ?_)
  go_ret
  exact ⟨rfl, (Below.refl _ _).alloc (Nat.le_refl _) _⟩
end Go.Proofs.YtaamjccffkdlhaaGreatDoor
