/- How a text is expanded: plain steps; what is asked, and in what memory the answers lie; bytes that a call gathers. Nothing is proved of the program here. -/
import Derived.Test.YtbkcnopkibdlbaaDoorAg
import Derived.Lib.AppendStr
import Derived.Laws.BytesArg
import Derived.Laws.IdiomStrings
import Derived.Laws.Strings
namespace Go.Proofs.YtbkcnopkibdlbaaDoor
open Go.RowKit Go.Lib

/-- What is thrown where a limit is met. -/
abbrev thrownL : Ending := .panicked [{ v := .iface 52 (.agg #[]), recovered := false }]
def endO : Option ByteArray → Ending
  | some t => .returned (.string t)
  | none => thrownL
/-- A question: the answer, or none where a limit is met; how many have been asked then. -/
def akO (A : Esc → ByteArray) (n : Nat) (x : Esc) (o : Nat) : Option ByteArray × Nat :=
  if n = 500 then (none, 500) else if 8000 < (A x).size + o then (none, n + 1) else (some (A x), n + 1)
theorem akO_le {A : Esc → ByteArray} {n : Nat} {x : Esc} {o : Nat} (h : n ≤ 500) : n ≤ (akO A n x o).2 ∧ (akO A n x o).2 ≤ 500 := by
  unfold akO
  split
  · exact ⟨h, Nat.le_refl _⟩
  · split
    · exact ⟨by show n ≤ n + 1; omega, by show n + 1 ≤ 500; omega⟩
    · exact ⟨by show n ≤ n + 1; omega, by show n + 1 ≤ 500; omega⟩
theorem akO_some {A : Esc → ByteArray} {n : Nat} {x : Esc} {o m : Nat} {t : ByteArray} (h : akO A n x o = (some t, m)) : t = A x ∧ t.size + o ≤ 8000 ∧ m = n + 1 ∧ n ≠ 500 := by
  unfold akO at h
  split at h
  · cases h
  · split at h
    · cases h
    · injection h with h1 h2
      injection h1 with h1
      subst h1
      exact ⟨rfl, by omega, h2.symm, by assumption⟩
/-- What stands ahead of an escape and behind it. -/
def hdE (s : ByteArray) (x : Esc) : ByteArray := s.extract 0 x.a
def tlE (s : ByteArray) (x : Esc) : ByteArray := s.extract x.z s.size
theorem hd_size {s : ByteArray} {cp : Bool} {x : Esc} (h : Fine s cp x) : (hdE s x).size = x.a := by
  have h1 := h.az
  have h2 := h.z
  unfold hdE
  rw [extract_size _ _ _ (by omega)]; omega
theorem tl_size (s : ByteArray) (x : Esc) : (tlE s x).size = s.size - x.z := by
  unfold tlE
  rw [extract_size _ _ _ (Nat.le_refl _)]
def named (k : Nat) : Prop := k = 110 ∨ k = 42 ∨ k = 36
/-- How a text is expanded from a point on: n questions asked, D put out, R still to be read. -/
inductive Exp (cp : Bool) (A : Esc → ByteArray) : Nat → ByteArray → ByteArray → Option ByteArray → Nat → Prop
  | stop {n D R} : esF R cp = none → Exp cp A n D R (some (D ++ R)) n
  | quote {n D R x} : esF R cp = some x → x.k = 34 → Exp cp A n D R (some (D ++ hdE R x)) n
  | lit {n D R x o m} : esF R cp = some x → x.k = 92 ∨ x.k = 46 → Exp cp A n (D ++ hdE R x ++ ⟨#[UInt8.ofNat x.k]⟩) (tlE R x) o m → Exp cp A n D R o m
  | no {n D R x m} : esF R cp = some x → named x.k → akO A n x ((D ++ hdE R x).size + (tlE R x).size) = (none, m) → Exp cp A n D R none m
  | num {n D R x t m o m'} : esF R cp = some x → x.k = 110 → akO A n x ((D ++ hdE R x).size + (tlE R x).size) = (some t, m) → Exp cp A m (D ++ hdE R x ++ t) (tlE R x) o m' → Exp cp A n D R o m'
  | again {n D R x t m o m'} : esF R cp = some x → x.k = 42 ∨ x.k = 36 → akO A n x ((D ++ hdE R x).size + (tlE R x).size) = (some t, m) → Exp cp A m (D ++ hdE R x) (t ++ tlE R x) o m' → Exp cp A n D R o m'
  | wFell {n D R x m} : esF R cp = some x → x.k = 119 → Exp cp A n ⟨#[]⟩ x.nm none m → Exp cp A n D R none m
  | wNo {n D R x t m m'} : esF R cp = some x → x.k = 119 → Exp cp A n ⟨#[]⟩ x.nm (some t) m → akO A m { x with nm := t } ((D ++ hdE R x).size + (tlE R x).size) = (none, m') → Exp cp A n D R none m'
  | wNum {n D R x t m u m' o m''} : esF R cp = some x → x.k = 119 → Exp cp A n ⟨#[]⟩ x.nm (some t) m → akO A m { x with nm := t } ((D ++ hdE R x).size + (tlE R x).size) = (some u, m') → Exp cp A m' (D ++ hdE R x ++ u) (tlE R x) o m'' → Exp cp A n D R o m''

/-- Who is asked: memory J U n (U: the blocks that a question may change; n: how many were asked), at the expander's block b. -/
structure Orc (b : Nat) (cp : Bool) (A : Esc → ByteArray) (J : (Nat → Prop) → Nat → World → Prop) : Prop where
  c0 : ∀ {U n w}, J U n w → w.cell? ⟨b, 0, none⟩ = some (.bool cp)
  c2 : ∀ {U n w}, J U n w → w.cell? ⟨b, 2, none⟩ = some (.int .i64 n)
  kind : ∀ {U n w}, J U n w → ∀ i, U i → ∃ cs t fr, w.heap[i]? = some (.cells cs t fr) ∧ t ≠ 5
  keep : ∀ {U V : Nat → Prop} {n : Nat} {w w' : World}, J U n w → Turn V w w' → (∀ i, U i → ¬ V i) → J U n w'
  ask : ∀ {U n w}, J U n w → n ≤ 500 → ∀ (x : Esc) (o : Nat) (oi : Int), oi = o → o ≤ 8000 →
    Calls Tryd.prog 29 #[.pointer (some ⟨b, 0, none⟩), .agg #[.int .u8 x.k, .string x.nm, .int .i64 x.st, .int .i64 x.a, .int .i64 x.z], .int .i64 oi] w fun r w' =>
      r = endO (akO A n x o).1 ∧ ∃ U', J U' (akO A n x o).2 w' ∧ Turn U w w' ∧ ∀ i, U' i → U i ∨ w.heap.size ≤ i

theorem own_turn {b n size : Nat} {t : TypeId} {v : Value} {xs : List Value} {w w' : World} {S : Nat → Prop} (h : w.ownsRow b t size v n xs) (hT : Turn S w w') (hn : ∀ g, v.ownBlock = some g → ¬ S g) : w'.ownsRow b t size v n xs := by
  refine ⟨h.1, ?_⟩
  rcases h.2 with hn' | ⟨g, cap, cur, rfl, hb, hgg, rest⟩
  · exact .inl hn'
  · exact .inr ⟨g, cap, cur, rfl, hb, (hT.block g (Array.getElem?_eq_some_iff.1 hgg).1 (hn g rfl)).trans hgg, rest⟩
theorem own_below {b n size : Nat} {t : TypeId} {v : Value} {xs : List Value} {w w' : World} (h : w.ownsRow b t size v n xs) (hb : Below w.heap.size w w') : w'.ownsRow b t size v n xs :=
  own_turn (S := fun _ => False) h (Turn.of_below hb) (fun _ _ h => h)
theorem Orc.mem {b : Nat} {cp : Bool} {A : Esc → ByteArray} {J : (Nat → Prop) → Nat → World → Prop} (O : Orc b cp A J) {U : Nat → Prop} {n : Nat} {w : World} (h : J U n w) : ∀ i, U i → i < w.heap.size := fun i hi => by
  obtain ⟨_, _, _, h, _⟩ := O.kind h i hi
  exact (Array.getElem?_eq_some_iff.1 h).1
theorem own_out {b : Nat} {cp : Bool} {A : Esc → ByteArray} {J : (Nat → Prop) → Nat → World → Prop} (O : Orc b cp A J) {U : Nat → Prop} {n : Nat} {w : World} (h : J U n w) {B k : Nat} {v : Value} {xs : List Value} (ho : w.ownsRow B 5 1 v k xs) : ∀ g, v.ownBlock = some g → ¬ U g := fun g hg hu => by
  obtain ⟨cs, t, fr, h1, h2⟩ := O.kind h g hu
  rcases ho.2 with ⟨rfl, _⟩ | ⟨g', cap, cur, rfl, _, hgg, _⟩
  · cases hg
  · injection hg with hg
    subst hg
    rw [hgg] at h1
    injection h1 with h1
    injection h1 with _ h1 _
    exact h2 h1.symm
theorem app_cells (a b : ByteArray) : strCells (a ++ b) = strCells a ++ strCells b := by
  unfold strCells
  rw [app_data, List.map_append]
theorem app_size (a b : ByteArray) : (a ++ b).size = a.size + b.size := by
  rw [size_len, app_data, List.length_append, ← size_len, ← size_len]
/-- Bytes that a call gathered, as a string. -/
theorem conv_own {w : World} {b : Nat} {v : Value} {D : ByteArray} (h : w.ownsRow b 5 1 v D.size (strCells D)) : (convert 41 9 v).run Tryd.prog w = .ok (.string D) w := by
  rcases h.2 with ⟨rfl, h0⟩ | ⟨g, cap, cur, rfl, hb, hg, h1, h2, h3, h4⟩
  · rw [run_convert_bytes_nil (P := Tryd.prog) w 41 5 Tryd.underlying41 Tryd.underlying5 0 0 9 Tryd.underlying9, ba_nil h0]
    rfl
  · have hc := h.cells (g := g) rfl
    have := run_convert_bytes_back (P := Tryd.prog) w 41 9 5 ⟨g, 0, none⟩ cap D.data.toList Tryd.underlying41 Tryd.underlying5 Tryd.underlying9 (fun j hj => hc j _ (by
      unfold strCells
      rw [List.getElem?_map, List.getElem?_eq_getElem hj]; rfl))
    rw [← size_len] at this
    rw [this]
/-- How far a text can still be expanded. -/
def muE (n r : Nat) : Nat := (501 - n) * 9000 + r
theorem muE_mono {n r r' : Nat} (h : r ≤ r') : muE n r ≤ muE n r' := Nat.add_le_add_left h _
theorem muE_less {n r r' : Nat} (h : r < r') : muE n r < muE n r' := Nat.add_lt_add_left h _
theorem muE_ask {n n' r r' : Nat} (h : n < n') (h5 : n' ≤ 500) (hr : r ≤ 8000) : muE n' r < muE n r' := by
  unfold muE
  have h1 : (501 - n' + 1) * 9000 ≤ (501 - n) * 9000 := Nat.mul_le_mul_right _ (by omega)
  rw [Nat.add_mul, Nat.one_mul] at h1
  exact Nat.lt_of_lt_of_le (Nat.add_lt_add_left (Nat.lt_of_le_of_lt hr (by decide)) _) (Nat.le_trans h1 (Nat.le_add_right _ _))
theorem muE_less2 {n n' r r' : Nat} (h : n ≤ n') (h5 : n' ≤ 500) (hr : r ≤ 8000) (hl : r < r') : muE n' r < muE n r' := by
  rcases Nat.lt_or_ge n n' with e | e
  · exact muE_ask e h5 hr
  · obtain rfl : n = n' := by omega
    exact muE_less hl
/-- The memory in expand's loop: U what a question may change, v the bytes D that were gathered. -/
structure Lm (J : (Nat → Prop) → Nat → World → Prop) (U0 : Nat → Prop) (w : World) (U : Nat → Prop) (n : Nat) (D : ByteArray) (v : Value) (wr : World) : Prop where
  j : J U n wr
  own : wr.ownsRow w.heap.size 5 1 v D.size (strCells D)
  turn : Turn U0 w wr
  new : ∀ i, U i → U0 i ∨ w.heap.size ≤ i
section
variable {b : Nat} {cp : Bool} {A : Esc → ByteArray} {J : (Nat → Prop) → Nat → World → Prop} {U0 : Nat → Prop} {w : World} {U : Nat → Prop} {n : Nat} {D : ByteArray} {v : Value} {wr w1 : World}
theorem Lm.size (h : Lm J U0 w U n D v wr) : w.heap.size ≤ wr.heap.size := h.turn.size
theorem Lm.below (O : Orc b cp A J) (h : Lm J U0 w U n D v wr) (hb : Below wr.heap.size wr w1) : Lm J U0 w U n D v w1 :=
  { h with j := O.keep h.j (Turn.of_below (S := fun _ => False) hb) (fun _ _ h => h), own := own_below h.own hb, turn := h.turn.trans (Turn.of_below (S := fun _ => False) hb) (fun _ _ h => h.elim) }
theorem Lm.alloc (O : Orc b cp A J) (h : Lm J U0 w U n D v wr) (o : Obj) : Lm J U0 w U n D v (wr.alloc o) := h.below O ((Below.refl _ _).alloc (Nat.le_refl _) o)
/-- A new block is written. -/
theorem Lm.set (O : Orc b cp A J) (h : Lm J U0 w U n D v wr) {g o : Nat} {u : Value} {t : TypeId} {cs : Array Value} (hg : w.heap.size ≤ g) (hu : ¬ U g) (hB : Blk wr g t cs) (ht : t ≠ 5) : Lm J U0 w U n D v (wr.setCell ⟨g, o, none⟩ u) := by
  have hT : Turn (· = g) wr (wr.setCell ⟨g, o, none⟩ u) := ⟨rfl, rfl, rfl, by simp [World.setCell], fun i _ hn => Below.heap_setCell wr _ u i (fun e => hn e)⟩
  refine ⟨O.keep h.j hT (fun i hi e => hu (by rw [← show i = g from e]; exact hi)), own_turn h.own hT (fun i hi e => ?_), h.turn.trans hT (fun i hi e => by have : i = g := e; omega), h.new⟩
  have : i = g := e
  subst this
  rcases h.own.2 with ⟨rfl, _⟩ | ⟨g', cap, cur, rfl, _, hgg, _⟩
  · cases hi
  · injection hi with hi
    subst hi
    unfold Blk at hB
    rw [hgg] at hB
    injection hB with hB
    injection hB with _ hB _
    exact ht hB.symm
/-- Bytes are gathered. -/
theorem Lm.grown (O : Orc b cp A J) (h : Lm J U0 w U n D v wr) {v' : Value} {D' : ByteArray} (hg : wr.grownBy w1 v.ownBlock) (ho : w1.ownsRow w.heap.size 5 1 v' D'.size (strCells D')) : Lm J U0 w U n D' v' w1 := by
  have hT : Turn (fun i => v.ownBlock = some i) wr w1 := ⟨hg.os, hg.tape, hg.output, hg.size, fun i hi hn => hg.block i hi (fun e => hn e.symm)⟩
  exact ⟨O.keep h.j hT (fun i hi e => own_out O h.j h.own i e hi), ho, h.turn.trans hT (fun i hi e => by have := (h.own.lt i e).1; omega), h.new⟩
/-- Somebody was asked. -/
theorem Lm.asked (O : Orc b cp A J) (h : Lm J U0 w U n D v wr) {U' : Nat → Prop} {n' : Nat} (hj : J U' n' w1) (hT : Turn U wr w1) (hn : ∀ i, U' i → U i ∨ wr.heap.size ≤ i) : Lm J U0 w U' n' D v w1 := by
  refine ⟨hj, own_turn h.own hT (own_out O h.j h.own), h.turn.trans hT (fun i hi e => ?_), fun i hi => ?_⟩
  · rcases h.new i e with e | e
    · exact e
    · omega
  · rcases hn i hi with e | e
    · exact h.new i e
    · have := h.size
      exact .inr (by omega)
end
end Go.Proofs.YtbkcnopkibdlbaaDoor
