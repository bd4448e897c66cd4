/- The memory words of the walks over package measure's reader, and the walks of its smallest functions. -/
import Derived.Test.YtonhglhdbpmnhaaDoorProg
import Derived.Test.YtonhglhdbpmnhaaDoorMp
import Derived.Handy
import Derived.WalkLawsBesides
import Derived.WalkSpells
import Derived.Lib.Hide
import Derived.Laws.OwnMore
import Derived.Deep.Draws
import Derived.Outline
namespace Go.Proofs.YtonhglhdbpmnhaaDoor
open Go.RowKit

theorem ret_i {k : IntKind} {a b : Int} (h : a = b) : Ending.returned (.int k a) = .returned (.int k b) := by rw [h]
theorem ret_ii {k l : IntKind} {a b c d : Int} (h : a = b) (h2 : c = d) : Ending.returned (.tuple #[.int k a, .int l c]) = .returned (.tuple #[.int k b, .int l d]) := by rw [h, h2]

/-- 42: inRange. -/
theorem c42 (n : Int) (w : World) : Calls Tryd.prog 42 #[.int .i64 n] w fun e w' => e = .returned (.bool (within n)) ∧ w = w' := by
  by_cases h1 : -1000000000 ≤ n
  · have hw : within n = decide (n ≤ 1000000000) := by simp [within, h1]
    rw [hw]; clear hw
    go_enter Tryd.func42, Tryd.ntmps42
    go_wp2
    all_goals go_ret
    all_goals exact ⟨rfl, rfl⟩
  · have hw : within n = false := by simp [within, h1]
    rw [hw]; clear hw
    go_enter Tryd.func42, Tryd.ntmps42
    go_wp2
    all_goals go_ret
    all_goals exact ⟨rfl, rfl⟩

/-- 77: isDigit. -/
theorem c77 (c : Nat) (w : World) : Calls Tryd.prog 77 #[.int .u8 c] w fun e w' => e = .returned (.bool (isDig c)) ∧ w = w' := by
  by_cases h1 : 48 ≤ (c : Int)
  · have hw : isDig c = decide ((c : Int) ≤ 57) := by simp [isDig, h1]
    rw [hw]; clear hw
    go_enter Tryd.func77, Tryd.ntmps77
    go_wp2
    all_goals go_ret
    all_goals exact ⟨rfl, rfl⟩
  · have hw : isDig c = false := by simp [isDig, h1]
    rw [hw]; clear hw
    go_enter Tryd.func77, Tryd.ntmps77
    go_wp2
    all_goals go_ret
    all_goals exact ⟨rfl, rfl⟩

/-- 75: truth. -/
theorem c75 (b : Bool) (w : World) : Calls Tryd.prog 75 #[.bool b] w fun e w' => e = .returned (.int .i64 (truthI b)) ∧ w = w' := by
  cases b
  all_goals
    go_enter Tryd.func75, Tryd.ntmps75
    go_wp2
    go_ret
    exact ⟨rfl, rfl⟩

/-- 74: divisor. -/
theorem c74 (n : Int) (h : ¬ n = 0) (w : World) : Calls Tryd.prog 74 #[.int .i64 n] w fun e w' => e = .returned (.int .i64 n) ∧ w = w' := by
  go_enter Tryd.func74, Tryd.ntmps74
  go_wp2
  go_ret
  exact ⟨rfl, rfl⟩
/-- What is thrown. -/
abbrev thrown (x : Int) : Ending := .panicked [{ v := .iface 31 (.int .i64 x), recovered := false }]
theorem c74z (w : World) : Calls Tryd.prog 74 #[.int .i64 0] w fun e w' => e = thrown 11 ∧ w = w' := by
  go_enter Tryd.func74, Tryd.ntmps74
  go_wp2
  exact ⟨rfl, rfl, rfl⟩
/-- 51: need. -/
theorem c51t (p : Value) (w : World) : Calls Tryd.prog 51 #[p, .bool true] w fun e w' => e = .returned (.tuple #[]) ∧ w = w' := by
  go_enter Tryd.func51, Tryd.ntmps51
  go_wp2
  go_end0
  exact ⟨rfl, rfl⟩
theorem c51f (p : Value) (w : World) : Calls Tryd.prog 51 #[p, .bool false] w fun e w' => e = thrown 4 ∧ w = w' := by
  go_enter Tryd.func51, Tryd.ntmps51
  go_wp2
  exact ⟨rfl, rfl, rfl⟩

def Blk (w : World) (g : Nat) (t : TypeId) (cs : Array Value) : Prop := w.heap[g]? = some (.cells cs t (0, 0))
section
variable {w w' : World} {g : Nat} {t : TypeId} {cs : Array Value}
theorem Blk.lt (h : Blk w g t cs) : g < w.heap.size := by
  rcases Nat.lt_or_ge g w.heap.size with hlt | hge
  · exact hlt
  · unfold Blk at h; rw [Array.getElem?_eq_none hge] at h; cases h
theorem Blk.cell (h : Blk w g t cs) (i : Nat) : w.cell? ⟨g, i, none⟩ = cs[i]? := cell_of_row w g i cs t (0, 0) h
theorem Blk.frozen (h : Blk w g t cs) (i : Nat) : w.frozen? ⟨g, i, none⟩ = false := by
  unfold Blk at h
  simp [World.frozen?, h]
theorem Blk.new (w : World) (t : TypeId) (cs : Array Value) : Blk (w.alloc (.cells cs t)) w.heap.size t cs := heap_alloc_new w _
theorem Blk.drew (h : Blk w g t cs) : Blk w.drew g t cs := h
theorem Blk.drewN (h : Blk w g t cs) (n : Nat) : Blk (w.drewN n) g t cs := h
theorem Blk.alloc (h : Blk w g t cs) (o : Obj) : Blk (w.alloc o) g t cs := (Below.heap_alloc w o g h.lt).trans h
theorem Blk.set_ (h : Blk w g t cs) (i : Nat) (u : Value) : Blk (w.setCell ⟨g, i, none⟩ u) g t (cs.setIfInBounds i u) := by
  unfold Blk at h ⊢
  simp [World.setCell, Array.getElem?_modify, h]
theorem Blk.far (h : Blk w g t cs) {p : Addr} (hp : g ≠ p.block) (u : Value) : Blk (w.setCell p u) g t cs := (Below.heap_setCell w p u g hp).trans h
theorem Blk.below {B : Nat} (h : Blk w g t cs) (hb : Below B w w') (hg : g < B) : Blk w' g t cs := (hb.block g hg).trans h
theorem Blk.grown {row : Option Nat} (h : Blk w g t cs) (hb : w.grownBy w' row) (hg : some g ≠ row) : Blk w' g t cs := (hb.block g h.lt hg).trans h
end
theorem only_drewN {a w : World} {row : Option Nat} (h : a.grownBy w row) (n : Nat) : a.grownBy (w.drewN n) row := ⟨h.os, h.tape, h.output, h.size, h.block⟩
theorem only_drew {a w : World} {row : Option Nat} (h : a.grownBy w row) : a.grownBy w.drew row := ⟨h.os, h.tape, h.output, h.size, h.block⟩
theorem only_alloc {a w : World} {row : Option Nat} (h : a.grownBy w row) (o : Obj) : a.grownBy (w.alloc o) row :=
  ⟨h.os, h.tape, h.output, Nat.le_trans h.size (by simp), fun i hi hne => (Below.heap_alloc w o i (Nat.lt_of_lt_of_le hi h.size)).trans (h.block i hi hne)⟩
theorem only_setCell {a w : World} {g : Nat} (h : a.grownBy w (some g)) {p : Addr} (hp : p.block = g ∨ a.heap.size ≤ p.block) (u : Value) : a.grownBy (w.setCell p u) (some g) :=
  ⟨h.os, h.tape, h.output, by simpa [World.setCell] using h.size, fun i hi hne => (Below.heap_setCell w p u i (by
    rintro rfl
    rcases hp with hp | hp
    · exact hne (by rw [hp])
    · omega)).trans (h.block i hi hne)⟩
theorem only_of_below {a w : World} (h : Below a.heap.size a w) (row : Option Nat) : a.grownBy w row := ⟨h.os, h.tape, h.output, h.size, fun i hi _ => h.block i hi⟩
theorem only_trans {a b c : World} {row : Option Nat} (h : a.grownBy b row) (k : b.grownBy c row) : a.grownBy c row :=
  ⟨k.os.trans h.os, k.tape.trans h.tape, k.output.trans h.output, Nat.le_trans h.size k.size, fun i hi hn => (k.block i (Nat.lt_of_lt_of_le hi h.size) hn).trans (h.block i hi hn)⟩

/-- Block g is a reader over s. -/
def Rd (w : World) (g : Nat) (s : ByteArray) (M : Md) (pos deep : Nat) : Prop :=
  Blk w g 83 #[.string s, .int .i64 pos, .int .i64 deep, .int .i64 M.one, .int .i64 M.sz, .int .i64 M.vs, .int .i64 M.here, .bool M.fm]
section
variable {w : World} {g : Nat} {s : ByteArray} {M : Md} {pos deep : Nat}
theorem Rd.c0 (h : Rd w g s M pos deep) : w.cell? ⟨g, 0, none⟩ = some (.string s) := Blk.cell h 0
theorem Rd.c1 (h : Rd w g s M pos deep) : w.cell? ⟨g, 1, none⟩ = some (.int .i64 pos) := Blk.cell h 1
theorem Rd.c2 (h : Rd w g s M pos deep) : w.cell? ⟨g, 2, none⟩ = some (.int .i64 deep) := Blk.cell h 2
theorem Rd.c3 (h : Rd w g s M pos deep) : w.cell? ⟨g, 3, none⟩ = some (.int .i64 M.one) := Blk.cell h 3
theorem Rd.c4 (h : Rd w g s M pos deep) : w.cell? ⟨g, 4, none⟩ = some (.int .i64 M.sz) := Blk.cell h 4
theorem Rd.c5 (h : Rd w g s M pos deep) : w.cell? ⟨g, 5, none⟩ = some (.int .i64 M.vs) := Blk.cell h 5
theorem Rd.c6 (h : Rd w g s M pos deep) : w.cell? ⟨g, 6, none⟩ = some (.int .i64 M.here) := Blk.cell h 6
theorem Rd.c7 (h : Rd w g s M pos deep) : w.cell? ⟨g, 7, none⟩ = some (.bool M.fm) := Blk.cell h 7
theorem Rd.fz (h : Rd w g s M pos deep) (i : Nat) : w.frozen? ⟨g, i, none⟩ = false := Blk.frozen h i
theorem Rd.at_ (h : Rd w g s M pos deep) (p : Nat) : Rd (w.setCell ⟨g, 1, none⟩ (.int .i64 p)) g s M p deep := Blk.set_ h 1 _
theorem Rd.at' (h : Rd w g s M pos deep) (n : Int) (p : Nat) (hn : n = p) : Rd (w.setCell ⟨g, 1, none⟩ (.int .i64 n)) g s M p deep := by subst hn; exact h.at_ p
theorem Rd.deep' (h : Rd w g s M pos deep) (n : Int) (p : Nat) (hn : n = p) : Rd (w.setCell ⟨g, 2, none⟩ (.int .i64 n)) g s M pos p := by subst hn; exact Blk.set_ h 2 _
theorem Rd.deep_ (h : Rd w g s M pos deep) (p : Nat) : Rd (w.setCell ⟨g, 2, none⟩ (.int .i64 p)) g s M pos p := Blk.set_ h 2 _
end

/-- What a reader's world has become: the reader at another place, nothing else that was there turned. -/
def Moved (w : World) (g : Nat) (s : ByteArray) (M : Md) (pos deep : Nat) (w' : World) : Prop := Rd w' g s M pos deep ∧ w.grownBy w' (some g)
theorem Moved.refl {w : World} {g : Nat} {s : ByteArray} {M : Md} {pos deep : Nat} (h : Rd w g s M pos deep) : Moved w g s M pos deep w := ⟨h, World.grownBy.refl w _⟩
theorem Moved.trans {w w1 w2 : World} {g : Nat} {s : ByteArray} {M : Md} {pos deep pos' deep' : Nat} (h : Moved w g s M pos deep w1) (k : Moved w1 g s M pos' deep' w2) : Moved w g s M pos' deep' w2 := ⟨k.1, only_trans h.2 k.2⟩
theorem Moved.step {w w1 : World} {g : Nat} {s : ByteArray} {M : Md} {pos deep : Nat} (h : Moved w g s M pos deep w1) (n : Int) (p : Nat) (hn : n = p) : Moved w g s M p deep (w1.setCell ⟨g, 1, none⟩ (.int .i64 n)) :=
  ⟨h.1.at' n p hn, only_setCell h.2 (.inl rfl) _⟩
theorem Moved.sink {w w1 : World} {g : Nat} {s : ByteArray} {M : Md} {pos deep : Nat} (h : Moved w g s M pos deep w1) (n : Int) (p : Nat) (hn : n = p) : Moved w g s M pos p (w1.setCell ⟨g, 2, none⟩ (.int .i64 n)) :=
  ⟨h.1.deep' n p hn, only_setCell h.2 (.inl rfl) _⟩
theorem Moved.drew {w w1 : World} {g : Nat} {s : ByteArray} {M : Md} {pos deep : Nat} (h : Moved w g s M pos deep w1) : Moved w g s M pos deep w1.drew := ⟨h.1, only_drew h.2⟩
theorem Moved.drewN {w w1 : World} {g : Nat} {s : ByteArray} {M : Md} {pos deep : Nat} (h : Moved w g s M pos deep w1) (n : Nat) : Moved w g s M pos deep (w1.drewN n) := ⟨h.1, only_drewN h.2 n⟩
theorem Moved.alloc {w w1 : World} {g : Nat} {s : ByteArray} {M : Md} {pos deep : Nat} (h : Moved w g s M pos deep w1) (o : Obj) : Moved w g s M pos deep (w1.alloc o) := ⟨Blk.alloc h.1 o, only_alloc h.2 o⟩

/-- 73: bounded. -/
theorem c73f (g : Nat) (n : Int) (w : World) (h7 : w.cell? ⟨g, 7, none⟩ = some (.bool true)) : Calls Tryd.prog 73 #[.pointer (some ⟨g, 0, none⟩), .int .i64 n] w fun e w' => e = .returned (.int .i64 0) ∧ w = w' := by
  go_enter Tryd.func73, Tryd.ntmps73
  go_wp2
  go_ret
  exact ⟨rfl, rfl⟩
theorem c73 (g : Nat) (n : Int) (w : World) (h7 : w.cell? ⟨g, 7, none⟩ = some (.bool false)) (hn : within n = true) : Calls Tryd.prog 73 #[.pointer (some ⟨g, 0, none⟩), .int .i64 n] w fun e w' => e = .returned (.int .i64 n) ∧ w = w' := by
  go_enter Tryd.func73, Tryd.ntmps73
  go_wp2_with (go_at_call 42; refine (c42 _ _).mono ?_; rintro e w' ⟨rfl, rfl⟩)
  go_ret
  exact ⟨rfl, rfl⟩
theorem c73x (g : Nat) (n : Int) (w : World) (h7 : w.cell? ⟨g, 7, none⟩ = some (.bool false)) (hn : within n = false) : Calls Tryd.prog 73 #[.pointer (some ⟨g, 0, none⟩), .int .i64 n] w fun e w' => e = thrown 5 ∧ w = w' := by
  go_enter Tryd.func73, Tryd.ntmps73
  go_wp2_with (go_at_call 42; refine (c42 _ _).mono ?_; rintro e w' ⟨rfl, rfl⟩)
  exact ⟨rfl, rfl, rfl⟩

/-- 56: byteAt. -/
theorem c56 (g : Nat) (s : ByteArray) (i : Nat) (w : World) (h0 : w.cell? ⟨g, 0, none⟩ = some (.string s)) (_hs : s.size ≤ maxLen) : Calls Tryd.prog 56 #[.pointer (some ⟨g, 0, none⟩), .int .i64 i] w fun e w' => e = .returned (.int .u8 (bt s i)) ∧ w = w' := by
  by_cases hi : i < s.size
  · have hb : bt s i = (s[i]'hi).toNat := by simp [bt, hi]
    rw [hb]; clear hb
    go_enter Tryd.func56, Tryd.ntmps56
    go_wp2
    go_ret
    exact ⟨rfl, rfl⟩
  · have hb : bt s i = 0 := by simp [bt, hi]
    rw [hb]; clear hb
    go_enter Tryd.func56, Tryd.ntmps56
    go_wp2
    go_ret
    exact ⟨rfl, rfl⟩
theorem c56i (g : Nat) (s : ByteArray) (i : Nat) (n : Int) (hn : n = i) (w : World) (h0 : w.cell? ⟨g, 0, none⟩ = some (.string s)) (hs : s.size ≤ maxLen) : Calls Tryd.prog 56 #[.pointer (some ⟨g, 0, none⟩), .int .i64 n] w fun e w' => e = .returned (.int .u8 (bt s i)) ∧ w = w' := by
  subst hn; exact c56 g s i w h0 hs
theorem c73s {fm : Bool} {n m : Int} (hb : bdd fm n = some m) (g : Nat) (w : World) (h7 : w.cell? ⟨g, 7, none⟩ = some (.bool fm)) : Calls Tryd.prog 73 #[.pointer (some ⟨g, 0, none⟩), .int .i64 n] w fun e w' => e = .returned (.int .i64 m) ∧ w = w' := by
  cases fm
  · unfold bdd at hb
    by_cases h : within n = true
    · rw [if_neg (by decide), if_pos h] at hb
      cases hb
      exact c73 g n w h7 h
    · rw [if_neg (by decide), if_neg h] at hb
      cases hb
  · cases hb
    exact c73f g n w h7
theorem c73n {fm : Bool} {n : Int} (hb : bdd fm n = none) (g : Nat) (w : World) (h7 : w.cell? ⟨g, 7, none⟩ = some (.bool fm)) : Calls Tryd.prog 73 #[.pointer (some ⟨g, 0, none⟩), .int .i64 n] w fun e w' => e = thrown 5 ∧ w = w' := by
  cases fm
  · unfold bdd at hb
    by_cases h : within n = true
    · rw [if_neg (by decide), if_pos h] at hb
      cases hb
    · exact c73x g n w h7 (by simpa using h)
  · cases hb
end Go.Proofs.YtonhglhdbpmnhaaDoor
