/- Walks of the document's own answers to layer 1: operands. -/
import Derived.Test.YtonhglhdbpmnhaaDoorNb
import Derived.Test.YtonhglhdbpmnhaaDoorNc
namespace Go.Proofs.YtonhglhdbpmnhaaDoor
open Go.RowKit

/-- What the document's reader has come to. -/
def RPost (fm : Bool) (w : World) (r : Res) (e : Ending) (w' : World) : Prop :=
  (match r with
  | .ok n en => ∃ n' : Int, (fm = false → n' = n) ∧ e = .returned (.tuple #[.int .i64 n', .int .i64 en, .int .i64 0])
  | .err x => ∃ a b : Int, e = .returned (.tuple #[.int .i64 a, .int .i64 b, .int .i64 x])) ∧ Below w.heap.size w w'
section
variable {P : Program} {F : Nat} {args : Array Value} {w : World} {n : Int} {en x : Nat} {fm : Bool}
theorem spec_ff (h : Calls P F args w (RPost false w (.ok n en))) : Calls P F args w fun e w' => e = .returned (.tuple #[.int .i64 n, .int .i64 en, .int .i64 0]) ∧ Below w.heap.size w w' :=
  h.mono fun _ _ ⟨⟨n', hn, he⟩, hb⟩ => ⟨by rw [← hn rfl]; exact he, hb⟩
theorem spec_ft (h : Calls P F args w (RPost fm w (.ok n en))) : Calls P F args w fun e w' => (∃ n' : Int, (fm = false → n' = n) ∧ e = .returned (.tuple #[.int .i64 n', .int .i64 en, .int .i64 0])) ∧ Below w.heap.size w w' := h
theorem spec_e (h : Calls P F args w (RPost fm w (.err x))) : Calls P F args w fun e w' => (∃ a b : Int, e = .returned (.tuple #[.int .i64 a, .int .i64 b, .int .i64 x])) ∧ Below w.heap.size w w' := h
end
/-- The reader lies boxed. -/
def RB (s : ByteArray) (sc : Nat) (sz vs here : Int) (fm : Bool) (w w' : World) : Prop :=
  Blk w' w.heap.size 71 #[.string s, .int .u8 sc, .int .i64 sz, .int .i64 vs, .int .i64 here, .bool fm] ∧ Below w.heap.size w w'
section
variable {s : ByteArray} {sc : Nat} {sz vs here : Int} {fm : Bool} {w w1 w2 : World}
theorem RB.init (s : ByteArray) (sc : Nat) (sz vs here : Int) (fm : Bool) (w : World) : RB s sc sz vs here fm w (w.alloc (.cells #[.string s, .int .u8 sc, .int .i64 sz, .int .i64 vs, .int .i64 here, .bool fm] 71)) :=
  ⟨Blk.new _ _ _, (Below.refl _ _).alloc (Nat.le_refl _) _⟩
theorem RB.below (h : RB s sc sz vs here fm w w1) (hb : Below w1.heap.size w1 w2) : RB s sc sz vs here fm w w2 := ⟨Blk.below h.1 hb (Blk.lt h.1), ntrans h.2 hb⟩
theorem RB.drew (h : RB s sc sz vs here fm w w1) : RB s sc sz vs here fm w w1.drew := ⟨h.1, h.2.drew⟩
theorem RB.cells (h : RB s sc sz vs here fm w w1) : w1.cell? ⟨w.heap.size, 0, none⟩ = some (.string s) ∧ w1.cell? ⟨w.heap.size, 1, none⟩ = some (.int .u8 sc) ∧ w1.cell? ⟨w.heap.size, 2, none⟩ = some (.int .i64 sz) ∧ w1.cell? ⟨w.heap.size, 3, none⟩ = some (.int .i64 vs) ∧ w1.cell? ⟨w.heap.size, 4, none⟩ = some (.int .i64 here) ∧ w1.cell? ⟨w.heap.size, 5, none⟩ = some (.bool fm) :=
  ⟨Blk.cell h.1 0, Blk.cell h.1 1, Blk.cell h.1 2, Blk.cell h.1 3, Blk.cell h.1 4, Blk.cell h.1 5⟩
end

/-- What the part behind the signs comes to. -/
def baseR (s : ByteArray) (M : Md) (f last deep : Nat) : Option Res :=
  if bt s last = 40 then
    if deep < 20 then
      match ev s M f (.sum (last + 1) (deep + 1)) with
      | none => none
      | some (.err e) => some (.err e)
      | some (.ok n en) => if bt s (skp s (deep + 1) en) = 41 then some (.ok n (skp s (deep + 1) en + 1)) else some (.err 4)
    else some (.err 4)
  else some (numF s M last)
theorem ev_opd_base (s : ByteArray) (M : Md) (f i deep : Nat) : ev s M (f + 1) (.opd i deep) = (baseR s M f (rn s deep i) deep).map (fin s M i (rn s deep i)) := by
  simp only [ev, baseR]
  by_cases h1 : bt s (rn s deep i) = 40
  · rw [if_pos h1, if_pos h1]
    by_cases h2 : deep < 20
    · rw [if_pos h2, if_pos h2]
      rcases ev s M f (.sum (rn s deep i + 1) (deep + 1)) with _ | r
      · rfl
      rcases r with ⟨n, en⟩ | e
      · simp only
        by_cases h3 : bt s (skp s (deep + 1) en) = 41
        · rw [if_pos h3, if_pos h3]; rfl
        · rw [if_neg h3, if_neg h3]; rfl
      · rfl
    · rw [if_neg h2, if_neg h2]; rfl
  · rw [if_neg h1, if_neg h1]; rfl
theorem back_blank {s : ByteArray} {M : Md} {i : Nat} (h : bt s i = 32) (k : Nat) (n : Int) : back s M i (k + 1) n = back s M (i + 1) k n := by
  rw [back_left, h]
  rcases back s M (i + 1) k n with _ | m
  · rfl
  · simp [sg1]
theorem back_blanks {s : ByteArray} {M : Md} {deep j : Nat} : ∀ (d i k : Nat) (n : Int), i + d = j → (∀ l, i ≤ l → l < j → blk s deep l = true) → back s M i (d + k) n = back s M j k n := by
  intro d
  induction d with
  | zero => intro i k n h _; rw [Nat.zero_add, ← h]; rfl
  | succ d ih =>
    intro i k n h hb
    have h32 : bt s i = 32 := by
      have := hb i (by omega) (by omega)
      simp [blk] at this; exact this.2
    rw [show d + 1 + k = d + k + 1 by omega, back_blank h32]
    exact ih (i + 1) k n (by omega) (fun l a b => hb l (by omega) b)
/-- Blanks ahead turn nothing. -/
theorem fin_blanks {s : ByteArray} {M : Md} {deep i j last : Nat} (hij : i ≤ j) (hjl : j ≤ last) (hb : ∀ l, i ≤ l → l < j → blk s deep l = true) (B : Res) : fin s M i last B = fin s M j last B := by
  cases B with
  | ok n en =>
    have := back_blanks (M := M) (j - i) i (last - j) n (by omega) hb
    rw [show j - i + (last - j) = last - i by omega] at this
    simp only [fin, this]
  | err e => rfl
theorem fin_here (s : ByteArray) (M : Md) (last : Nat) (B : Res) : fin s M last last B = B := by
  cases B
  · simp [fin, back]
  · rfl
/-- One sign ahead. -/
def sgR (M : Md) (c : Nat) : Res → Res
  | .ok n en => match sg1 M c n with | some m => .ok m en | none => .err 5
  | .err e => .err e
theorem fin_sign {s : ByteArray} {M : Md} {i last : Nat} (h : i < last) (B : Res) : fin s M i last B = sgR M (bt s i) (fin s M (i + 1) last B) := by
  cases B with
  | ok n en =>
    have hb := back_left s M i (last - (i + 1)) n
    rw [show last - (i + 1) + 1 = last - i by omega] at hb
    simp only [fin, hb]
    rcases back s M (i + 1) (last - (i + 1)) n with _ | m
    · rfl
    · simp only [Option.bind_some, sgR]
      rfl
  | err e => rfl
theorem numF_err {s : ByteArray} {M : Md} {i e : Nat} (h : numF s M i = .err e) : e ≠ 0 := by
  unfold numF at h
  split at h
  · cases h; omega
  · split at h
    · cases h
    · cases h; omega
theorem fin_err {s : ByteArray} {M : Md} {i last e : Nat} {r : Res} (h : fin s M i last r = .err e) (hr : ∀ x, r = .err x → x ≠ 0) : e ≠ 0 := by
  cases r with
  | ok n en =>
    simp only [fin] at h
    split at h
    · cases h
    · cases h; omega
  | err x => cases h; exact hr _ rfl
theorem rk_err {fm : Bool} {j e : Nat} {a b : Int} (h : rk fm j a b = .bad e) : e ≠ 0 := by
  unfold rk at h
  split at h
  · cases h
  split at h
  · cases h; omega
  split at h
  · cases h
  · cases h; omega
/-- No error is 0. -/
theorem ev_err (s : ByteArray) (M : Md) : ∀ (f : Nat) (k : Ki) (e : Nat), ev s M f k = some (.err e) → e ≠ 0 := by
  intro f
  induction f with
  | zero => intro k e h; cases h
  | succ f ih =>
    intro k e h
    cases k with
    | opd i deep =>
      rw [ev_opd_base] at h
      rcases hB : baseR s M f (rn s deep i) deep with _ | B
      · rw [hB] at h; cases h
      rw [hB] at h
      injection h with h
      refine fin_err h (fun x hx => ?_)
      subst hx
      unfold baseR at hB
      split at hB
      · split at hB
        · split at hB
          · cases hB
          · rename_i x' hs
            cases hB; exact ih _ _ hs
          · split at hB
            · cases hB
            · cases hB; omega
        · cases hB; omega
      · injection hB with hB; exact numF_err hB
    | sum i deep =>
      simp only [ev] at h
      rcases hs : ev s M f (.opd i deep) with _ | r
      · rw [hs] at h; cases h
      rw [hs] at h
      rcases r with ⟨a, t⟩ | x
      · exact ih _ _ h
      · cases h; exact ih _ _ hs
    | loop m i deep =>
      simp only [ev] at h
      split at h
      · cases h
      rcases hs : ev s M f (.opd (skp s deep i + (opS (opIx s (skp s deep i))).size) deep) with _ | r
      · rw [hs] at h; cases h
      rw [hs] at h
      rcases r with ⟨a, t⟩ | x
      · simp only at h
        rcases hk : rk M.fm (opIx s (skp s deep i)) m a with v | x
        · rw [hk] at h; exact ih _ _ h
        · rw [hk] at h; cases h; exact rk_err hk
      · simp only at h
        split at h
        · cases h
        · cases h; exact ih _ _ hs
end Go.Proofs.YtonhglhdbpmnhaaDoor
