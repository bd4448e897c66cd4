/- What is asked of a stack in memory, whoever's it is: the code's calls, by what they answer and leave. -/
import Derived.Test.YtpgkhhchpojlaaaGreatDoorKz
import Derived.Test.YtpgkhhchpojlaaaGreatDoorDa
namespace Go.Proofs.YtpgkhhchpojlaaaGreatDoor
open Go.RowKit Go.Maps Go.WideMaps

/-- A stack in memory: what it may write, what it keeps, where it lies, its frames. -/
abbrev CStk := (Nat → Prop) → (Nat → Prop) → World → Nat → List Fr → Prop
def CTo (C : CStk) (U K : Nat → Prop) (w w' : World) (g : Nat) (fs : List Fr) : Prop :=
  ∃ U' K', C U' K' w' g fs ∧ Turn U w w' ∧ (∀ i, U' i → U i ∨ w.heap.size ≤ i) ∧ (∀ i, K' i → K i ∨ w.heap.size ≤ i)
/-- A stack of new blocks. -/
def CNew (C : CStk) (w w' : World) (g : Nat) (fs : List Fr) : Prop :=
  ∃ U' K', C U' K' w' g fs ∧ (∀ i, U' i → w.heap.size ≤ i) ∧ (∀ i, K' i → w.heap.size ≤ i) ∧ Below w.heap.size w w'
/-- A stack whose field and row are new; what they hold may be another's. -/
def CNw (C : CStk) (w w' : World) (g : Nat) (fs : List Fr) : Prop :=
  ∃ U' K', C U' K' w' g fs ∧ (∀ i, U' i → w.heap.size ≤ i) ∧ Below w.heap.size w w'
theorem CNew.w {C : CStk} {w w' : World} {g : Nat} {fs : List Fr} (h : CNew C w w' g fs) : CNw C w w' g fs := by
  obtain ⟨U, K, h1, h2, _, h4⟩ := h
  exact ⟨U, K, h1, h2, h4⟩
structure CBase (C : CStk) : Prop where
  turn : ∀ {U K S : Nat → Prop} {w w' : World} {g : Nat} {fs : List Fr}, C U K w g fs → Turn S w w' → (∀ i, U i → ¬ S i) → (∀ i, K i → ¬ S i) → C U K w' g fs
  sets : ∀ {U K : Nat → Prop} {w : World} {g : Nat} {fs : List Fr}, C U K w g fs → (∀ i, U i → i < w.heap.size) ∧ (∀ i, K i → i < w.heap.size)
  ok : ∀ {U K : Nat → Prop} {w : World} {g : Nat} {fs : List Fr}, C U K w g fs → AllOk fs
structure CMeth (C : CStk) : Prop extends CBase C where
  new : ∀ w : World, Calls Tryz.prog 7 #[] w fun e w' => ∃ g, e = .returned (.pointer (some ⟨g, 0, none⟩)) ∧ CNew C w w' g []
  copy : ∀ {U K : Nat → Prop} {w : World} {g : Nat} {fs : List Fr}, C U K w g fs → Calls Tryz.prog 14 #[.pointer (some ⟨g, 0, none⟩)] w fun e w' => ∃ g', e = .returned (.pointer (some ⟨g', 0, none⟩)) ∧ CNw C w w' g' fs
  file : ∀ {U K : Nat → Prop} {w : World} {g : Nat} {fs : List Fr} (n t : ByteArray), n.size ≤ maxLen → t.size ≤ 1000000 → C U K w g fs →
    Calls Tryz.prog 16 #[.pointer (some ⟨g, 0, none⟩), .string n, .string t] w fun e w' => e = .returned (.int .i64 (putE (nmdB n && rdB t) fs)) ∧ CTo C U K w w' g (putF (nmdB n && rdB t) fs (filFr n t))
  macro_ : ∀ {U K : Nat → Prop} {w : World} {g : Nat} {fs : List Fr} (n : ByteArray) (K0 : Nat → Prop) (v v2 : Value) (ls : List Ln) (ags : List ByteArray), n.size ≤ maxLen → ls.length ≤ 10000000000000 → ags.length * 16 ≤ 140737488355328 → LnsAt K0 w v ls → SsAt K0 w v2 ags → (∀ k, K0 k → k < w.heap.size) → C U K w g fs →
    Calls Tryz.prog 18 #[.pointer (some ⟨g, 0, none⟩), .string n, v, v2] w fun e w' => e = .returned (.int .i64 (putE (nmdB n && lsOk ls) fs)) ∧ CTo C U K w w' g (putF (nmdB n && lsOk ls) fs (macFr n ls ags))
  wait : ∀ {U K : Nat → Prop} {w : World} {g : Nat} {fs : List Fr} (K0 : Nat → Prop) (v : Value) (ls : List Ln), ls.length ≤ 10000000000000 → LnsAt K0 w v ls → (∀ k, K0 k → k < w.heap.size) → C U K w g fs →
    Calls Tryz.prog 19 #[.pointer (some ⟨g, 0, none⟩), v] w fun e w' => e = .returned (.int .i64 (putE (lsOk ls) fs)) ∧ CTo C U K w w' g (putF (lsOk ls) fs (waiFr ls))
  next : ∀ {U K : Nat → Prop} {w : World} {g : Nat} {fs : List Fr}, C U K w g fs → Calls Tryz.prog 17 #[.pointer (some ⟨g, 0, none⟩)] w fun e w' => LnOut w w' e (nxL fs) (nxE fs) ∧ CTo C U K w w' g (nxF fs)
  peek : ∀ {U K : Nat → Prop} {w : World} {g : Nat} {fs : List Fr}, C U K w g fs → Calls Tryz.prog 20 #[.pointer (some ⟨g, 0, none⟩)] w fun e w' => LnOut w w' e (nxL fs) (nxE fs) ∧ Below w.heap.size w w'
  return_ : ∀ {U K : Nat → Prop} {w : World} {g : Nat} {fs : List Fr} (all : Bool), C U K w g fs → Calls Tryz.prog 21 #[.pointer (some ⟨g, 0, none⟩), .bool all] w fun e w' => e = .returned (.int .i64 (rtE fs)) ∧ CTo C U K w w' g (rtF all fs)
  instead : ∀ {U K : Nat → Prop} {w : World} {g : Nat} {fs : List Fr} (n t : ByteArray), n.size ≤ maxLen → t.size ≤ 1000000 → C U K w g fs →
    Calls Tryz.prog 22 #[.pointer (some ⟨g, 0, none⟩), .string n, .string t] w fun e w' => e = .returned (.int .i64 (inE (nmdB n && rdB t) fs)) ∧ CTo C U K w w' g (inF (nmdB n && rdB t) fs (filFr n t))
  shift : ∀ {U K : Nat → Prop} {w : World} {g : Nat} {fs : List Fr} (n : Int), -9223372036854775808 ≤ n ∧ n ≤ 9223372036854775807 → C U K w g fs → Calls Tryz.prog 23 #[.pointer (some ⟨g, 0, none⟩), .int .i64 n] w fun e w' => e = .returned (.int .i64 (shE fs n)) ∧ CTo C U K w w' g (shF fs n)
  args : ∀ {U K : Nat → Prop} {w : World} {g : Nat} {fs : List Fr}, C U K w g fs → Calls Tryz.prog 34 #[.pointer (some ⟨g, 0, none⟩)] w fun e w' => ∃ A n c, e = .returned (.slice A n c) ∧ SsAt (fun k => w.heap.size ≤ k ∧ k < w'.heap.size) w' (.slice A n c) (agL fs) ∧ Below w.heap.size w w'
  name : ∀ {U K : Nat → Prop} {w : World} {g : Nat} {fs : List Fr}, C U K w g fs → Calls Tryz.prog 36 #[.pointer (some ⟨g, 0, none⟩)] w fun e w' => e = .returned (.string (nmS fs)) ∧ Below w.heap.size w w'
  line : ∀ {U K : Nat → Prop} {w : World} {g : Nat} {fs : List Fr}, C U K w g fs → Calls Tryz.prog 38 #[.pointer (some ⟨g, 0, none⟩)] w fun e w' => e = .returned (.int .i64 (lnI fs : Nat)) ∧ Below w.heap.size w w'
  depth : ∀ {U K : Nat → Prop} {w : World} {g : Nat} {fs : List Fr}, C U K w g fs → Calls Tryz.prog 13 #[.pointer (some ⟨g, 0, none⟩)] w fun e w' => e = .returned (.int .i64 (fs.length : Nat)) ∧ Below w.heap.size w w'
section
variable {C : CStk} {U K : Nat → Prop} {w w' : World} {g : Nat} {fs : List Fr}
theorem CBase.below (M : CBase C) (h : C U K w g fs) (hb : Below w.heap.size w w') : C U K w' g fs := M.turn (S := fun _ => False) h (Turn.of_below hb) (fun _ _ => id) (fun _ _ => id)
theorem CTo.same (M : CBase C) (h : C U K w g fs) (hb : Below w.heap.size w w') : CTo C U K w w' g fs := ⟨U, K, M.below h hb, Turn.of_below hb, fun _ h => .inl h, fun _ h => .inl h⟩
end
end Go.Proofs.YtpgkhhchpojlaaaGreatDoor
