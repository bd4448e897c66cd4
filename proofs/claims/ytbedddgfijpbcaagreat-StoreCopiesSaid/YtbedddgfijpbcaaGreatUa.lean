/- A map whose keys are pointers to blocks: what a look-up and a store come to. What the code's Copy has on its way: the copies by their pointers, the new store. The steps of the code's Copy. Walk: Copy. -/
import Derived.Test.YtbedddgfijpbcaaGreatQv
import Derived.Test.YtbedddgfijpbcaaGreatBb
import Derived.Test.YtbedddgfijpbcaaGreatQs
import Derived.Test.YtbedddgfijpbcaaGreatRf
import Derived.LaidEql
import Derived.Maps.Range
import Derived.Maps.RangeWalk
import Derived.Deep.RegionHeld3
namespace Go.Proofs.YtbedddgfijpbcaaGreat
open Go.RowKit Go.Maps Go.WideMaps

def ptr (n : Nat) : Value := .pointer (some ⟨n, 0, none⟩)
theorem ptr_inj {a b : Nat} (h : ptr a = ptr b) : a = b := by
  unfold ptr at h
  injection h with h
  injection h with h
  injection h
/-- Block b is a map that leads from pointers to pointers. -/
def PM (w : World) (b : Nat) (l : List (Nat × Nat)) : Prop := ∃ es clock, w.heap[b]? = some (.map es clock) ∧ (es.toList.map fun e => (e.key, e.val)) = l.map fun p => (ptr p.1, ptr p.2)
section
variable {P : Program} {w : World} {b : Nat} {l : List (Nat × Nat)} {t k el te : TypeId} {j : TypeInfo}
theorem PM.lt (h : PM w b l) : b < w.heap.size := by
  obtain ⟨es, clock, hb, _⟩ := h
  exact (Array.getElem?_eq_some_iff.1 hb).1
theorem PM.stay {w' : World} (h : PM w b l) (hb : w'.heap[b]? = w.heap[b]?) : PM w' b l := by
  obtain ⟨es, clock, h1, h2⟩ := h
  exact ⟨es, clock, hb.trans h1, h2⟩
theorem PM.ne {g : Nat} {t : TypeId} {cs : Array Value} (h : PM w b l) (hg : Blk w g t cs) : g ≠ b := by
  rintro rfl
  obtain ⟨es, clock, h1, _⟩ := h
  unfold Blk at hg
  rw [hg] at h1
  injection h1 with h1
  cases h1
theorem PM.made (w : World) : PM (w.alloc (.map #[] 0)) w.heap.size [] := ⟨#[], 0, (MapKept.heap_alloc w _).1, rfl⟩
/-- What is known of the blocks that are compared. -/
def Held (w : World) (t : TypeId) (a : Nat) : Prop := ∃ cs, Blk w a t cs
theorem eq_ptr (hp : P.underlying k = some (.pointer te)) (hte : P.info? te = some j) (hsz : j.size ≠ 0) {a c : Nat} {ta tc : TypeId} (ha : Held w ta a) (hc : Held w tc c) : (Op.equal k (ptr a) (ptr c)).run P w = .ok (decide (a = c)) w := by
  obtain ⟨ca, ha⟩ := ha
  obtain ⟨cc, hc⟩ := hc
  by_cases e : a = c
  · subst e
    have h : ∀ d : Nat, (Op.equalIn (d + 1) k (ptr a) (ptr a)).run P w = .ok true w := fun d => by
      simp [ptr, Op.equalIn, run_underlying hp, sizeOf, typeInfo, hte, run_sameAddr_same]
    simp [Op.equal, Op.maxDepth, h 9999]
  · have hne : (⟨a, 0, none⟩ : Addr) ≠ ⟨c, 0, none⟩ := fun h => e (by injection h)
    have h : ∀ d : Nat, (Op.equalIn (d + 1) k (ptr a) (ptr c)).run P w = .ok false w := fun d => by
      simp [ptr, Op.equalIn, run_underlying hp, sizeOf, typeInfo, hte, hsz, run_sameAddr_other w hne ha hc]
    simp [Op.equal, Op.maxDepth, h 9999, e]
theorem find_ptr (hp : P.underlying k = some (.pointer te)) (hte : P.info? te = some j) (hsz : j.size ≠ 0) {a : Nat} {ta : TypeId} (ha : Held w ta a) : ∀ (es : List MapEntry) (i : Nat), (∀ e ∈ es, ∃ c, e.key = ptr c ∧ Held w ta c) →
    ((Instr.findAsking k (ptr a) es i).run P w = .ok none w ∧ ∀ e ∈ es, e.key ≠ ptr a) ∨ ∃ n e, (Instr.findAsking k (ptr a) es i).run P w = .ok (some (n, e.val)) w ∧ e ∈ es ∧ e.key = ptr a
  | [], i, _ => Or.inl ⟨by simp [Instr.findAsking], by simp⟩
  | e :: es, i, hall => by
    obtain ⟨c, hc, hh⟩ := hall e (by simp)
    have hr := eq_ptr (P := P) hp hte hsz ha hh
    by_cases ec : a = c
    · right
      rw [decide_eq_true ec] at hr
      exact ⟨i, e, by simp [Instr.findAsking, hc, hr], List.mem_cons_self .., by rw [hc, ec]⟩
    · rw [decide_eq_false ec] at hr
      have hne : e.key ≠ ptr a := fun h => ec (ptr_inj (h.symm.trans hc))
      rcases find_ptr hp hte hsz ha es (i + 1) (fun y hy => hall y (by simp [hy])) with ⟨h1, h2⟩ | ⟨n, e', h1, h2, h3⟩
      · left
        refine ⟨by simp [Instr.findAsking, hc, hr, h1], fun y hy => ?_⟩
        rcases List.mem_cons.1 hy with rfl | hy
        · exact hne
        · exact h2 y hy
      · right
        exact ⟨n, e', by simp [Instr.findAsking, hc, hr, h1], List.mem_cons_of_mem _ h2, h3⟩
theorem key_ptr (hp : P.underlying k = some (.pointer te)) (hte : P.info? te = some j) (hsz : j.size ≠ 0) {a : Nat} {ta : TypeId} (ha : Held w ta a) {es : Array MapEntry} (he : (es.toList.map fun e => (e.key, e.val)) = l.map fun p => (ptr p.1, ptr p.2)) (hl : ∀ p ∈ l, Held w ta p.1) :
    ((Instr.findKey k (ptr a) es.toList).run P w = .ok none w ∧ ∀ p ∈ l, p.1 ≠ a) ∨ ∃ n c, (Instr.findKey k (ptr a) es.toList).run P w = .ok (some (n, ptr c)) w ∧ (a, c) ∈ l := by
  have hall : ∀ e ∈ es.toList, ∃ p ∈ l, e.key = ptr p.1 ∧ e.val = ptr p.2 := fun e hm => by
    have : (e.key, e.val) ∈ l.map fun p => (ptr p.1, ptr p.2) := by rw [← he]; exact List.mem_map.2 ⟨e, hm, rfl⟩
    obtain ⟨p, hp, e1⟩ := List.mem_map.1 this
    injection e1 with e1 e2
    exact ⟨p, hp, e1.symm, e2.symm⟩
  have hback : ∀ p ∈ l, ∃ e ∈ es.toList, e.key = ptr p.1 := fun p hp => by
    have : (ptr p.1, ptr p.2) ∈ es.toList.map fun e => (e.key, e.val) := by rw [he]; exact List.mem_map.2 ⟨p, hp, rfl⟩
    obtain ⟨e, hm, e1⟩ := List.mem_map.1 this
    injection e1 with e1 _
    exact ⟨e, hm, e1⟩
  generalize es.toList = L at *
  have hfk : (Instr.findKey k (ptr a) L).run P w = (Instr.findAsking k (ptr a) L 0).run P w := by
    cases L with
    | nil => simp [Instr.findKey, run_underlying hp, Instr.findNow, Instr.findAsking, Result.andThen]
    | cons e L => simp [Instr.findKey, run_underlying hp, Instr.findNow, Instr.sameNow, Result.andThen]
  rw [hfk]
  rcases find_ptr (P := P) hp hte hsz ha L 0 (fun e hm => by
    obtain ⟨p, hp, e1, _⟩ := hall e hm
    exact ⟨p.1, e1, hl p hp⟩) with ⟨h1, h2⟩ | ⟨n, e, h1, h2, h3⟩
  · exact .inl ⟨h1, fun p hp e1 => by
      obtain ⟨e, hm, e2⟩ := hback p hp
      exact h2 e hm (by rw [e2, e1])⟩
  · obtain ⟨p, hp, e1, e2⟩ := hall e h2
    have : p.1 = a := ptr_inj (e1.symm.trans h3)
    refine .inr ⟨n, p.2, by rw [h1, e2], ?_⟩
    rw [← this]; exact hp
theorem check_ptr (hp : P.underlying k = some (.pointer te)) (em : Bool) (a : Nat) : (Instr.checkKey em 10000 k (ptr a)).run P w = .ok () w := by
  show (Instr.checkKey em (9999 + 1) k (ptr a)).run P w = _
  unfold Instr.checkKey
  simp [run_underlying hp, Result.andThen, ptr]
/-- A look-up. -/
theorem PM.look (h : PM w b l) (ht : P.underlying t = some (.map k el)) (hp : P.underlying k = some (.pointer te)) (hte : P.info? te = some j) (hsz : j.size ≠ 0) (hz : (zeroValue el).run P w = .ok (.pointer none) w) {a : Nat} {ta : TypeId} (ha : Held w ta a) (hl : ∀ p ∈ l, Held w ta p.1) :
    ((Instr.lookup t (.map (some b)) (ptr a) false).run P w = .ok (.pointer none) w ∧ ∀ p ∈ l, p.1 ≠ a) ∨ ∃ c, (Instr.lookup t (.map (some b)) (ptr a) false).run P w = .ok (ptr c) w ∧ (a, c) ∈ l := by
  obtain ⟨es, clock, hb, he⟩ := h
  rcases key_ptr (P := P) hp hte hsz ha he hl with ⟨h1, h2⟩ | ⟨n, c, h1, h2⟩
  · exact .inl ⟨by simp [Instr.lookup, run_underlying ht, MapKept.run_getObj_map hb, check_ptr hp, h1, hz, Result.andThen], h2⟩
  · exact .inr ⟨c, by simp [Instr.lookup, run_underlying ht, MapKept.run_getObj_map hb, check_ptr hp, h1, Result.andThen], h2⟩
/-- A store at a key that is not there. -/
theorem PM.store (h : PM w b l) (ht : P.underlying t = some (.map k el)) (hp : P.underlying k = some (.pointer te)) (hte : P.info? te = some j) (hsz : j.size ≠ 0) {a : Nat} {ta : TypeId} (ha : Held w ta a) (hl : ∀ p ∈ l, Held w ta p.1) (hno : ∀ p ∈ l, p.1 ≠ a) (c : Nat) :
    ∃ w', (Instr.mapUpdate t (.map (some b)) (ptr a) (ptr c)).run P w = .ok () w' ∧ PM w' b (l ++ [(a, c)]) ∧ Turn (· = b) w w' ∧ w'.heap.size = w.heap.size := by
  obtain ⟨es, clock, hb, he⟩ := h
  rcases key_ptr (P := P) hp hte hsz ha he hl with ⟨h1, h2⟩ | ⟨n, c2, h1, h2⟩
  · refine ⟨{ w with heap := w.heap.setIfInBounds b (.map (es.push ⟨ptr a, ptr c, clock⟩) (clock + 1)) }, ?_, ⟨_, _, (MapKept.heap_set hb).1, ?_⟩, ⟨rfl, rfl, rfl, by simp, fun i _ hn => (MapKept.heap_set hb).2 i hn⟩, by simp⟩
    · simp [Instr.mapUpdate, run_underlying ht, MapKept.run_getObj_map hb, check_ptr hp, h1, MapKept.run_setObj_map _ hb, Result.andThen]
    · rw [Array.toList_push, List.map_append, List.map_append, he]; rfl
  · exact absurd rfl (hno _ h2)
end
section
variable {P : Program} {ops : Array Oper} {o : Oper} {a : Act} {w : World} {K : Act → World → Prop} {Q : Exit → Act → World → Prop} {E : Prop}
theorem step_look (hg : o.guard = none) (m x : Operand) (t : TypeId) (hop : o.op = Op.lookup t m x false) (vm vx : Value) (hm : a.eval m = vm) (hx : a.eval x = vx) (v : Value) (w' : World)
    (hrun : (Instr.lookup t vm vx false).run P w = .ok v w') (hK : K (a.put o.dst v) w') : if Region.wanted o (yielded ops a.tmps) = true then Oper.wp P o a w K Q else E := by
  have hw : Region.wanted o (yielded ops a.tmps) = true := by simp [Region.wanted, hg]
  rw [if_pos hw]
  unfold Oper.wp
  simp [execOp, hop, hm, hx, hrun, Result.andThen]
  exact hK
theorem step_upd (hg : o.guard = none) (m x v : Operand) (t : TypeId) (hop : o.op = Op.mapUpdate t m x v) (vm vx vv : Value) (hm : a.eval m = vm) (hx : a.eval x = vx) (hv : a.eval v = vv) (w' : World)
    (hrun : (Instr.mapUpdate t vm vx vv).run P w = .ok () w') (hK : K (a.put o.dst undef) w') : if Region.wanted o (yielded ops a.tmps) = true then Oper.wp P o a w K Q else E := by
  have hw : Region.wanted o (yielded ops a.tmps) = true := by simp [Region.wanted, hg]
  rw [if_pos hw]
  unfold Oper.wp
  simp [execOp, hop, hm, hx, hv, hrun, Result.andThen]
  exact hK
theorem wpList_look_run {rest : List Oper} (hgd : o.guard = none) (m x : Operand) (t : TypeId) (hop : o.op = Op.lookup t m x false) (vm vx : Value) (hm : a.eval m = vm) (hx : a.eval x = vx) (v : Value) (w' : World)
    (hrun : (Instr.lookup t vm vx false).run P w = .ok v w') (h : wpList P ops Q rest (a.put o.dst v) w') : wpList P ops Q (o :: rest) a w := by
  refine wpList_plain hgd fun K hK => ?_
  unfold Oper.wp
  simp [execOp, hop, hm, hx, hrun, Result.andThen]
  exact hK _ _ h
end
end Go.Proofs.YtbedddgfijpbcaaGreat
namespace Go.Proofs.YtbedddgfijpbcaaGreat
open Go.RowKit Go.Maps Go.WideMaps

/-- copyLines, of nil. -/
theorem cCopyNil (w : World) : Calls Tryz.prog 37 #[.slice none 0 0] w fun e w' => e = .returned (.slice none 0 0) ∧ w = w' := by
  have hc : ∀ w : World, Calls Tryz.prog 70 #[.slice none 0 0] w fun e w' => e = .returned (.slice none 0 0) ∧ w = w' := fun w => by
    have qn := fun (w : World) => Lib.run_eql_slice_nil (P := Tryz.prog) w 31 _ none 0 0 0 0 Tryz.underlying31
    go_enter Tryz.func70, Tryz.ntmps70
    go_wp2_with fail
    go_ret
    exact ⟨rfl, rfl⟩
  have HC := Lib.hid hc
  clear hc
  go_enter Tryz.func37, Tryz.ntmps37
  go_wp2_with (go_at_call 70; refine (HC.out _).mono ?_; rintro e w1 ⟨rfl, rfl⟩)
  refine wp_loop_rounds 1 ?_
  rw [rounds_succ]
  go_wp2
  go_ret
  exact ⟨rfl, rfl⟩
/-- Both have the same names, for the same, shared alike. -/
structure Iso (L : List Ent) (E : Nat → En) (L' : List Ent) (E' : Nat → En) : Prop where
  has : ∀ s, hasB L' s = hasB L s
  val : ∀ s, hasB L s = true → E' (getR L' s) = E (getR L s)
  same : ∀ s t, hasB L s = true → hasB L t = true → (getR L' s = getR L' t ↔ getR L s = getR L t)
/-- What has been copied, of the names that are not left; l: which entry is the copy of which. -/
structure CP (L : List Ent) (E : Nat → En) (L' : List Ent) (E' : Nat → En) (l : List (Nat × Nat)) (lf : Lit → Bool) : Prop where
  has : ∀ s, hasB L' s = (hasB L s && !lf (kOf s))
  lead : ∀ s, hasB L' s = true → (getR L s, getR L' s) ∈ l
  fn : ∀ p ∈ l, ∀ q ∈ l, p.1 = q.1 → p = q
  inj : ∀ p ∈ l, ∀ q ∈ l, p.2 = q.2 → p = q
  val : ∀ p ∈ l, E' p.2 = E p.1
  src : ∀ p ∈ l, ∃ s, hasB L s = true ∧ getR L s = p.1
section
variable {L L' : List Ent} {E E' : Nat → En} {l : List (Nat × Nat)} {lf : Lit → Bool} {s : ByteArray}
theorem CP.fin (h : CP L E L' E' l lf) (hl : ∀ k, lf k = false) : Iso L E L' E' := by
  have hh : ∀ s, hasB L' s = hasB L s := fun s => by rw [h.has, hl]; simp
  refine ⟨hh, fun s hs => ?_, fun s t hs ht => ?_⟩
  · exact h.val _ (h.lead s (by rw [hh]; exact hs))
  · have h1 := h.lead s (by rw [hh]; exact hs)
    have h2 := h.lead t (by rw [hh]; exact ht)
    constructor
    · intro e
      have := h.inj _ h1 _ h2 e
      injection this
    · intro e
      have := h.fn _ h1 _ h2 e
      injection this
theorem CP.start (L : List Ent) (E E' : Nat → En) (hL : Srt L) : CP L E [] E' [] (Maps.has (DB L)) :=
  ⟨fun s => by rw [has_DB hL]; cases hasB L s <;> rfl, fun s hs => (by cases hs), fun p hp => (by cases hp), fun p hp => (by cases hp), fun p hp => (by cases hp), fun p hp => (by cases hp)⟩
/-- A name that has come leads to the copy. -/
theorem CP.link (h : CP L E L' E' l lf) (_hL : Srt L) (hL' : Srt L') (hs : hasB L s = true) {c : Nat} (hc : (getR L s, c) ∈ l) : CP L E (putR L' s c) E' l (fun z => lf z && !z.sameKey (kOf s)) := by
  refine ⟨fun u => ?_, fun u hu => ?_, h.fn, h.inj, h.val, h.src⟩
  · rw [has_put hL', h.has, same_k]
    by_cases e : u = s
    · subst e; simp [hs]
    · simp [e]
  · by_cases e : u = s
    · subst e
      rw [get_put_at hL']; exact hc
    · rw [get_put_ne hL' e]
      rw [has_put hL', decide_eq_false e, Bool.false_or] at hu
      exact h.lead u hu
/-- A new copy. -/
theorem CP.make (h : CP L E L' E' l lf) (hs : hasB L s = true) {c : Nat} (hno : ∀ p ∈ l, p.1 ≠ getR L s) (hnc : ∀ p ∈ l, p.2 ≠ c) : CP L E L' (upd E' c (E (getR L s))) (l ++ [(getR L s, c)]) lf := by
  have hm : ∀ p, p ∈ l ++ [(getR L s, c)] → p ∈ l ∨ p = (getR L s, c) := fun p hp => by simpa using hp
  refine ⟨h.has, fun u hu => List.mem_append_left _ (h.lead u hu), fun p hp q hq e => ?_, fun p hp q hq e => ?_, fun p hp => ?_, fun p hp => ?_⟩
  · rcases hm p hp with h1 | rfl <;> rcases hm q hq with h2 | rfl
    · exact h.fn p h1 q h2 e
    · exact absurd e (hno p h1)
    · exact absurd e.symm (hno q h2)
    · rfl
  · rcases hm p hp with h1 | rfl <;> rcases hm q hq with h2 | rfl
    · exact h.inj p h1 q h2 e
    · exact absurd e (hnc p h1)
    · exact absurd e.symm (hnc q h2)
    · rfl
  · rcases hm p hp with h1 | rfl
    · rw [upd_ne (hnc p h1)]; exact h.val p h1
    · rw [upd_at]
  · rcases hm p hp with h1 | rfl
    · exact h.src p h1
    · exact ⟨s, hs, rfl⟩
end
end Go.Proofs.YtbedddgfijpbcaaGreat
namespace Go.Proofs.YtbedddgfijpbcaaGreat
open Go.RowKit Go.Maps Go.WideMaps

theorem sub_len : ∀ {L' L : List Ent}, Srt L' → Srt L → (∀ u, hasB L' u = true → hasB L u = true) → L'.length ≤ L.length
  | [], L, _, _, _ => Nat.zero_le _
  | p :: t, L, h1, h2, h => by
    have hp := h p.1 (mem_has h1 (List.mem_cons_self ..)).1
    have hd := del_len h2 hp
    have := sub_len (L' := t) (L := delR L p.1) h1.tail_ h2.del (fun u hu => by
      have hm := mem_get hu
      have hlt := h1.head_ _ hm
      have hne : u ≠ p.1 := fun e => by
        have := ne_of_nlt hlt
        exact this e.symm
      rw [has_del h2, decide_eq_true hne, Bool.true_and]
      refine h u ?_
      exact (mem_has h1 (List.mem_cons_of_mem _ hm)).1)
    rw [List.length_cons]; omega
structure CpB (w wr : World) (bm r bc gk bk : Nat) (L : List Ent) (E : Nat → En) (left lf : Lit → Bool) (cnt : Nat) (l : List (Nat × Nat)) (U F : Nat → Prop) (R : Nat → Option Nat) (L' : List Ent) (E' : Nat → En) : Prop where
  rg : wr.ranges Tryz.prog 9 RR bm r L.length (DB L) left cnt
  pm : PM wr bc l
  st : StAt U F R wr gk bk L' E'
  cp : CP L E L' E' l lf
  bl : Below w.heap.size w wr
  bs : w.heap.size ≤ wr.heap.size
  m0 : bm < w.heap.size
  u0 : ∀ i, U i → w.heap.size ≤ i
  f0 : ∀ i, F i → w.heap.size ≤ i
  g0 : w.heap.size ≤ gk
  r0 : w.heap.size ≤ r ∧ ¬ U r ∧ ¬ F r ∧ r ≠ gk ∧ r ≠ bc
  c0 : w.heap.size ≤ bc ∧ ¬ U bc ∧ ¬ F bc ∧ bc ≠ gk
/-- Each copy has a name, but for c. -/
def Lk (l : List (Nat × Nat)) (L' : List Ent) (c : Option Nat) : Prop := ∀ p ∈ l, some p.2 = c ∨ ∃ q ∈ L', q.2 = p.2
/-- c may be led to. -/
structure Ec (U F : Nat → Prop) (R : Nat → Option Nat) (wr : World) (L' : List Ent) (E' : Nat → En) (c : Nat) : Prop where
  ec : EnAt (R c) F wr c (E' c)
  uc : U c
  rc : ∀ i, R c = some i → U i
  sc : ∀ q ∈ L', ∀ i, R q.2 = some i → R c = some i → q.2 = c
section
variable {w wr : World} {bm r bc gk bk : Nat} {L : List Ent} {E : Nat → En} {left lf : Lit → Bool} {cnt : Nat} {l : List (Nat × Nat)} {U F : Nat → Prop} {R : Nat → Option Nat} {L' : List Ent} {E' : Nat → En}
/-- An entry has come. -/
theorem CpB.next {w1 : World} {left1 : Lit → Bool} {cnt1 : Nat} (h : CpB w wr bm r bc gk bk L E left lf cnt l U F R L' E') (hr : w1.ranges Tryz.prog 9 RR bm r L.length (DB L) left1 cnt1) (hg : wr.grownBy w1 (some r)) : CpB w w1 bm r bc gk bk L E left1 lf cnt1 l U F R L' E' := by
  have hT := Turn.of_grown hg
  obtain ⟨r0, r1, r2, r3, r4⟩ := h.r0
  refine ⟨hr, h.pm.stay (hT.block _ h.pm.lt (fun e => r4 e.symm)), h.st.turn hT (fun i hi e => r1 (e ▸ hi)) (fun i hi e => r2 (e ▸ hi)) (fun e => r3 e.symm), h.cp, hT.below h.bl h.bs (fun i e => by omega), Nat.le_trans h.bs hT.size, h.m0, h.u0, h.f0, h.g0, h.r0, h.c0⟩
/-- A copy that has a name may be led to. -/
theorem Lk.ec {a c : Nat} (h : CpB w wr bm r bc gk bk L E left lf cnt l U F R L' E') (hl : Lk l L' none) (hc : (a, c) ∈ l) : Ec U F R wr L' E' c := by
  rcases hl _ hc with e | ⟨q, hq, e⟩
  · cases e
  · have e : q.2 = c := e
    subst e
    exact ⟨h.st.ent q hq, h.st.ue q hq, h.st.ur q hq, fun q' hq' i h1 h2 => h.st.sep q' hq' q hq i h1 h2⟩
/-- A name leads to a copy. -/
theorem CpB.link {s : ByteArray} {c n : Nat} {w' : World} (h : CpB w wr bm r bc gk bk L E left lf cnt l U F R L' E') (hl : Lk l L' (some c)) (he : Ec U F R wr L' E' c) (hL : Srt L) (hL5 : L.length ≤ 500) (hs : hasB L s = true) (hlf : lf (kOf s) = true) (hn : nameB s = true) (hc : (getR L s, c) ∈ l)
    (ho : w'.ownsMap Tryz.prog 9 RR bk n ((DB L').put (kOf s) (.held (regVal c)))) (hg : wr.grownBy w' (some bk)) :
    CpB w w' bm r bc gk bk L E left (fun z => lf z && !z.sameKey (kOf s)) cnt l U F R (putR L' s c) E' ∧ Lk l (putR L' s c) none := by
  have hT := Turn.of_grown hg
  have hbk := h.st.ubm
  obtain ⟨r0, r1, r2, r3, r4⟩ := h.r0
  obtain ⟨c0, c1, c2, c3⟩ := h.c0
  have hno : hasB L' s = false := by rw [h.cp.has, hlf]; simp
  have hlen : L'.length < 500 := by
    have h1 := sub_len (L' := L') (L := delR L s) h.st.srt hL.del (fun u hu => by
      have hne : u ≠ s := fun e => by rw [e, hno] at hu; cases hu
      rw [has_del hL, decide_eq_true hne, Bool.true_and]
      rw [h.cp.has, Bool.and_eq_true] at hu
      exact hu.1)
    have h2 := del_len hL hs
    omega
  have hst := h.st.link (s := s) (e := c) ho hg (.inr hlen) hn he.ec he.uc he.rc he.sc
  have hbm : bm ≠ bk := fun e => by have := h.u0 bk hbk; have := h.m0; omega
  refine ⟨⟨h.rg.kept hg (fun e => hbm (by injection e)) (fun e => r1 (by injection e with e; rw [e]; exact hbk)), h.pm.stay (hT.block _ h.pm.lt (fun e => c1 (e ▸ hbk))), hst, h.cp.link hL h.st.srt hs hc, hT.below h.bl h.bs (fun i e => by rw [e]; exact h.u0 _ hbk), Nat.le_trans h.bs hT.size, h.m0, h.u0, h.f0, h.g0, h.r0, h.c0⟩, fun p hp => .inr ?_⟩
  have hmem : ∀ q ∈ L', q ∈ putR L' s c := fun q hq => by
    have h1 := mem_has h.st.srt hq
    have hne : q.1 ≠ s := fun e => by rw [e, hno] at h1; cases h1.1
    have h3 : hasB (putR L' s c) q.1 = true := by rw [has_put h.st.srt, h1.1, Bool.or_true]
    have := mem_get h3
    rw [get_put_ne h.st.srt hne, h1.2] at this
    exact this
  rcases hl p hp with e | ⟨q, hq, e⟩
  · injection e with e
    have := mem_get (L := putR L' s c) (s := s) (by rw [has_put h.st.srt]; simp)
    rw [get_put_at h.st.srt] at this
    exact ⟨_, this, e.symm⟩
  · exact ⟨q, hmem q hq, e⟩
/-- A copy is made. -/
theorem CpB.make {s : ByteArray} {w5 w7 : World} {k : Int} {t : ByteArray} {v : Value} {r' : Option Nat} {F' : Nat → Prop} (h : CpB w wr bm r bc gk bk L E left lf cnt l U F R L' E') (hl : Lk l L' none) (hs : hasB L s = true) (hno : ∀ p ∈ l, p.1 ≠ getR L s) (hb : Below wr.heap.size wr w5)
    (hv : EnVal r' F' w5 k t v (E (getR L s))) (hF : ∀ i, F' i → wr.heap.size ≤ i ∧ i < w5.heap.size) (hr : ∀ i, r' = some i → wr.heap.size ≤ i ∧ i < w5.heap.size ∧ ¬ F' i)
    (hT : Turn (· = bc) (w5.alloc (.cells #[.int .i64 k, .string t, v] 59)) w7) (hpm : PM w7 bc (l ++ [(getR L s, w5.heap.size)])) :
    ∃ U2 F2 R2 E2, CpB w w7 bm r bc gk bk L E left lf cnt (l ++ [(getR L s, w5.heap.size)]) U2 F2 R2 L' E2 ∧ Lk (l ++ [(getR L s, w5.heap.size)]) L' (some w5.heap.size) ∧ Ec U2 F2 R2 w7 L' E2 w5.heap.size := by
  have hbW : Below wr.heap.size wr (w5.alloc (.cells #[.int .i64 k, .string t, v] 59)) := hb.alloc hb.size _
  have hsz := hb.size
  have hbs := h.bs
  have hWs : (w5.alloc (.cells #[.int .i64 k, .string t, v] 59)).heap.size = w5.heap.size + 1 := by simp
  obtain ⟨r0, r1, r2, r3, r4⟩ := h.r0
  obtain ⟨c0, c1, c2, c3⟩ := h.c0
  have hrl := h.rg.lt
  have hcl := h.pm.lt
  have hgl := h.st.blk.lt
  have h1 := h.st.below hbW
  have hw1 : StAt (fun i => U i ∨ r' = some i ∨ i = w5.heap.size) (fun i => F i ∨ F' i) R (w5.alloc (.cells #[.int .i64 k, .string t, v] 59)) gk bk L' E' := h1.wide (fun i => .inl) (fun i => .inl) (by
    rintro (h2 | h2 | h2)
    · exact h.st.ug h2
    · have := (hr _ h2).1; omega
    · omega) (by
    rintro i (h2 | h2 | h2) (h3 | h3)
    · exact h.st.uf i h2 h3
    · have := h.st.ul i h2; have := (hF i h3).1; omega
    · have := h.st.fl i h3; have := (hr i h2).1; omega
    · exact (hr i h2).2.2 h3
    · have := h.st.fl i h3; omega
    · have := (hF i h3).2; omega) (by
    rintro i (h2 | h2 | h2)
    · exact h1.ul i h2
    · have := (hr i h2).2.1; omega
    · omega) (by
    rintro i (h2 | h2)
    · exact h1.fl i h2
    · have := (hF i h2).2; omega)
  have hids : ∀ p ∈ L', p.2 ≠ w5.heap.size := fun p hp e => by
    have := h.st.ids p hp
    have h2 : @LT.lt Nat _ p.2 wr.heap.size := this
    exact absurd (Nat.le_trans hsz (Nat.le_of_eq e.symm)) (Nat.not_le.2 h2)
  have hw2 := hw1.fresh (e := w5.heap.size) r' (E (getR L s)) hids
  have hz := Blk.new w5 59 #[.int .i64 k, .string t, v]
  have hbcU : ∀ i, (U i ∨ r' = some i ∨ i = w5.heap.size) → i ≠ bc := by
    rintro i (h2 | h2 | h2) e
    · exact c1 (e ▸ h2)
    · have := (hr i h2).1; omega
    · omega
  have hbcF : ∀ i, (F i ∨ F' i) → i ≠ bc := by
    rintro i (h2 | h2) e
    · exact c2 (e ▸ h2)
    · have := (hF i h2).1; omega
  have hnc : ∀ p ∈ l, p.2 ≠ w5.heap.size := fun p hp => by
    rcases hl p hp with e | ⟨q, hq, e⟩
    · cases e
    · rw [← e]; exact hids q hq
  refine ⟨_, _, _, _, ⟨((h.rg.kept (row := none) ⟨hbW.os, hbW.tape, hbW.output, hbW.size, fun i hi _ => hbW.block i hi⟩ (by simp) (by simp)).kept (row := some bc) ⟨hT.os, hT.tape, hT.output, hT.size, fun i hi hn => hT.block i hi (fun e => hn (by rw [e]))⟩ (fun e => by injection e with e; have := h.m0; omega) (fun e => r4 (by injection e))), hpm, hw2.turn hT (fun i hi e => hbcU i hi e) (fun i hi e => hbcF i hi e) (fun e => c3 e.symm), h.cp.make hs hno hnc, hT.below (h.bl.trans (hbW.mono hbs)) (by omega) (fun i e => by omega), by have := hT.size; omega, h.m0, ?_, ?_, h.g0, ⟨r0, ?_, ?_, r3, r4⟩, ⟨c0, fun hi => hbcU _ hi rfl, fun hi => hbcF _ hi rfl, c3⟩⟩, fun p hp => ?_, ?_⟩
  · rintro i (h2 | h2 | h2)
    · exact h.u0 i h2
    · have := (hr i h2).1; omega
    · omega
  · rintro i (h2 | h2)
    · exact h.f0 i h2
    · have := (hF i h2).1; omega
  · rintro (h2 | h2 | h2)
    · exact r1 h2
    · have := (hr _ h2).1; omega
    · omega
  · rintro (h2 | h2)
    · exact r2 h2
    · have := (hF _ h2).1; omega
  · rcases List.mem_append.1 hp with hp | hp
    · rcases hl p hp with e | hq
      · cases e
      · exact .inr hq
    · rw [List.mem_singleton] at hp
      subst hp
      exact .inl rfl
  · refine ⟨?_, .inr (.inr rfl), fun i hi => by rw [upd_at] at hi; exact .inr (.inl hi), fun q hq i h2 h3 => ?_⟩
    · rw [upd_at, upd_at]
      refine ⟨k, t, v, hT.blk hz (fun e => by omega), hv.stay (fun i hi hil => ?_) (fun i hi => .inr hi)⟩
      have hil5 : i < w5.heap.size := hil
      rw [hT.block i (by omega) (fun e => by
        rcases hi with hi | hi
        · have := (hr i hi).1; omega
        · have := (hF i hi).1; omega)]
      exact ((Below.refl w5.heap.size w5).alloc (Nat.le_refl _) (.cells #[.int .i64 k, .string t, v] 59)).block i hil5
    · rw [upd_at] at h3
      rw [upd_ne (hids q hq)] at h2
      have := h.st.ul i (h.st.ur q hq i h2)
      have := (hr i h3).1
      omega
end
end Go.Proofs.YtbedddgfijpbcaaGreat
namespace Go.Proofs.YtbedddgfijpbcaaGreat
open Go.RowKit Go.Maps Go.WideMaps

theorem sentry_info : (Tryz.prog.info? 59).map (fun i => (i.zero, i.size, i.bytes)) = some (some (.agg #[.int .i64 0, .string ⟨#[]⟩, .slice none 0 0]), 3, 48) := by kernel_rfl
theorem key_str {P : Program} {k : TypeId} (hk : P.underlying k = some .string) {x : ByteArray} {kl : Lit} (h : keyOf P k (.string x) = some kl) : x.size ≤ maxLen ∧ kl = .string x.data.toList := by
  rw [keyOf_string hk] at h
  unfold mapKey at h
  rw [hk] at h
  dsimp only at h
  by_cases hx : x.size ≤ maxLen
  · rw [if_pos hx] at h
    injection h with h
    exact ⟨hx, h.symm⟩
  · rw [if_neg hx] at h; cases h
theorem key_str_inv {P : Program} {k : TypeId} (hk : P.underlying k = some .string) {key : Value} {kl : Lit} (h : keyOf P k key = some kl) : ∃ x : ByteArray, key = .string x := by
  rw [keyOf_string hk] at h
  unfold mapKey at h
  rw [hk] at h
  cases key <;> first | exact ⟨_, rfl⟩ | cases h
/-- What comes out of the names. -/
theorem next_key {L : List Ent} (hL : Srt L) {x : ByteArray} {c : Value} {kl : Lit} {y : DataW Value × List MemPlace} (hkey : keyOf Tryz.prog 9 (.string x) = some kl) (hv : RR c = some y) (hat : ∀ zd, (DB L).atKey kl zd = y.1) : x.size ≤ maxLen ∧ kl = kOf x ∧ hasB L x = true ∧ c = ptr (getR L x) := by
  have hx := (key_str Tryz.underlying9 hkey).1
  rw [keyOf_string_mk Tryz.underlying9 hx] at hkey
  injection hkey with hkey
  have hk : kl = kOf x := hkey.symm
  subst hk
  unfold RR at hv
  injection hv with hv
  subst hv
  have h1 := hat .nil
  rw [at_DB hL] at h1
  cases hh : hasB L x
  · rw [hh] at h1; cases h1
  · rw [hh] at h1
    simp only [if_true] at h1
    injection h1 with h1
    exact ⟨hx, rfl, rfl, h1.symm⟩
section
variable {U F : Nat → Prop} {R : Nat → Option Nat} {w w' : World} {g bm : Nat} {L : List Ent} {E : Nat → En}
theorem StAt.held (h : StAt U F R w g bm L E) {s : ByteArray} (hs : hasB L s = true) : Held w 59 (getR L s) := by
  obtain ⟨k, t, v, hb, _⟩ := h.ent _ (mem_get hs)
  exact ⟨_, hb⟩
end
theorem CpB.drew {w wr : World} {bm r bc gk bk : Nat} {L : List Ent} {E : Nat → En} {left lf : Lit → Bool} {cnt : Nat} {l : List (Nat × Nat)} {U F : Nat → Prop} {R : Nat → Option Nat} {L' : List Ent} {E' : Nat → En} (h : CpB w wr bm r bc gk bk L E left lf cnt l U F R L' E') : CpB w wr.drew bm r bc gk bk L E left lf cnt l U F R L' E' :=
  ⟨h.rg, h.pm, h.st.below ((Below.refl _ _).drew), h.cp, h.bl.drew, h.bs, h.m0, h.u0, h.f0, h.g0, h.r0, h.c0⟩
theorem Ec.drew {wr : World} {U F : Nat → Prop} {R : Nat → Option Nat} {L' : List Ent} {E' : Nat → En} {c : Nat} (h : Ec U F R wr L' E' c) : Ec U F R wr.drew L' E' c := ⟨h.ec.stay (fun _ _ _ => rfl) (fun _ h => h), h.uc, h.rc, h.sc⟩
section
variable {w wr : World} {g bm r bc gk bk : Nat} {L : List Ent} {E : Nat → En} {left lf : Lit → Bool} {cnt : Nat} {l : List (Nat × Nat)} {U F U' F' : Nat → Prop} {R R' : Nat → Option Nat} {L' : List Ent} {E' : Nat → En} {x : ByteArray} {j0 : TypeInfo}
theorem CpB.keys (h : CpB w wr bm r bc gk bk L E left lf cnt l U' F' R' L' E') (hh : StAt U F R w g bm L E) {W : World} (hb : Below wr.heap.size wr W) : ∀ p ∈ l, Held W 59 p.1 := fun p hp => by
  obtain ⟨u, hu, e⟩ := h.cp.src p hp
  rw [← e]
  exact ((hh.below h.bl).below hb).held hu
/-- The look-up among the copies. -/
theorem CpB.looks (h : CpB w wr bm r bc gk bk L E left lf cnt l U' F' R' L' E') (hh : StAt U F R w g bm L E) (hs : hasB L x = true) (hj : Tryz.prog.info? 59 = some j0) (hj3 : j0.size ≠ 0) :
    ((Instr.lookup 56 (.map (some bc)) (ptr (getR L x)) false).run Tryz.prog wr = .ok (.pointer none) wr ∧ ∀ p ∈ l, p.1 ≠ getR L x) ∨ ∃ c, (Instr.lookup 56 (.map (some bc)) (ptr (getR L x)) false).run Tryz.prog wr = .ok (ptr c) wr ∧ (getR L x, c) ∈ l :=
  h.pm.look Tryz.underlying56 Tryz.underlying57 hj hj3 (zeroE wr) ((hh.below h.bl).held hs) (h.keys hh (Below.refl _ _))
/-- What the round's last statement does. -/
theorem CpB.ready9 {c : Nat} (h : CpB w wr bm r bc gk bk L E left lf cnt l U' F' R' L' E') (hl : Lk l L' (some c)) (he : Ec U' F' R' wr L' E' c) (hc : (getR L x, c) ∈ l) (hh : StAt U F R w g bm L E) (hs : hasB L x = true) (hx : x.size ≤ maxLen) (hlf : lf (kOf x) = true) (hj : Tryz.prog.info? 59 = some j0) (hj3 : j0.size ≠ 0) :
    (Instr.lookup 56 (.map (some bc)) (ptr (getR L x)) false).run Tryz.prog wr.drew = .ok (ptr c) wr.drew ∧ wr.drew.cell? ⟨gk, 0, none⟩ = some (.map (some bk)) ∧ ∃ w3, (Instr.mapUpdate 44 (.map (some bk)) (.string x) (ptr c)).run Tryz.prog wr.drew = .ok () w3 ∧ w3.cell? ⟨gk, 0, none⟩ = some (.map (some bk)) ∧
      (CpB w w3 bm r bc gk bk L E left (fun z => lf z && !z.sameKey (kOf x)) cnt l U' F' R' (putR L' x c) E' ∧ Lk l (putR L' x c) none) := by
  have hd := h.drew
  have hlk : (Instr.lookup 56 (.map (some bc)) (ptr (getR L x)) false).run Tryz.prog wr.drew = .ok (ptr c) wr.drew := by
    rcases hd.looks hh hs hj hj3 with ⟨_, hno⟩ | ⟨c', hrun, hc'⟩
    · exact absurd rfl (hno _ hc)
    · have e2 : c = c' := congrArg Prod.snd (hd.cp.fn _ hc _ hc' rfl)
      subst e2
      exact hrun
  have hn4 := hd.st.len
  obtain ⟨w3, q1, q2, q3⟩ := hd.st.own.update law Tryz.underlying44 (by unfold maxLen; omega) (key := .string x) (val := ptr c) (keyOf_string_mk Tryz.underlying9 hx) (d := .held (ptr c)) (ps := []) rfl
  obtain ⟨hB, hL⟩ := hd.link hl he.drew hh.srt hh.len hs hlf (hasB_name hh.good hs) hc q2 q3
  exact ⟨hlk, hd.st.c0, w3, q1, hB.st.c0, hB, hL⟩
/-- The lines of an entry are copied. -/
theorem cCopyEn {W : World} {r : Option Nat} {F : Nat → Prop} {k : Int} {t : ByteArray} {v : Value} {en : En} (h : EnVal r F W k t v en) (hr : ∀ i, r = some i → i < W.heap.size) (hF : ∀ i, F i → i < W.heap.size) :
    Calls Tryz.prog 37 #[v] W fun e w5 => ∃ A5 n5 c5, e = .returned (.slice A5 n5 c5) ∧ ∃ r5 F5, EnVal r5 F5 w5 k t (.slice A5 n5 c5) en ∧ (∀ i, F5 i → W.heap.size ≤ i ∧ i < w5.heap.size) ∧ (∀ i, r5 = some i → W.heap.size ≤ i ∧ i < w5.heap.size ∧ ¬ F5 i) ∧ Below W.heap.size W w5 := by
  cases en with
  | str s =>
    obtain ⟨rfl, rfl, rfl, hz, rfl⟩ := h
    refine (cCopyNil W).mono ?_
    rintro e w5 ⟨rfl, rfl⟩
    exact ⟨none, 0, 0, rfl, none, fun _ => False, ⟨rfl, rfl, rfl, hz, rfl⟩, fun _ h => h.elim, fun _ h => (by cases h), Below.refl _ _⟩
  | mac ls =>
    obtain ⟨rfl, rfl, ho, hz⟩ := h
    refine (cCopyL (fun i => r = some i ∨ F i) v ls W (ho.rd (fun i hi => .inl hi) (fun i hi => .inr hi)) (fun i hi => hi.elim (hr i) (hF i)) (by omega)).mono ?_
    rintro e w5 ⟨A5, c5, rfl, ⟨r5, F5, h1, h2, h3⟩, hb⟩
    exact ⟨A5, _, c5, rfl, r5, F5, ⟨rfl, rfl, h1, hz⟩, h2, h3, hb⟩
/-- A copy that is made. -/
theorem CpB.makes (h : CpB w wr bm r bc gk bk L E left lf cnt l U' F' R' L' E') (hl : Lk l L' none) (hh : StAt U F R w g bm L E) (hs : hasB L x = true) (hno : ∀ p ∈ l, p.1 ≠ getR L x) (hj : Tryz.prog.info? 59 = some j0) (hj3 : j0.size ≠ 0) :
    ∃ k0 t0 A0 n0 c0', (∀ W : World, Below wr.heap.size wr W → W.cell? ⟨getR L x, 0, none⟩ = some (.int .i64 k0) ∧ W.cell? ⟨getR L x, 1, none⟩ = some (.string t0) ∧ W.cell? ⟨getR L x, 2, none⟩ = some (.slice A0 n0 c0')) ∧
      Calls Tryz.prog 37 #[.slice A0 n0 c0'] wr.drew (fun e w5 => ∃ A5 n5 c5, e = .returned (.slice A5 n5 c5) ∧ ∃ r5 F5, EnVal r5 F5 w5 k0 t0 (.slice A5 n5 c5) (E (getR L x)) ∧ (∀ i, F5 i → wr.heap.size ≤ i ∧ i < w5.heap.size) ∧ (∀ i, r5 = some i → wr.heap.size ≤ i ∧ i < w5.heap.size ∧ ¬ F5 i) ∧ Below wr.heap.size wr w5) ∧
      ∀ (w5 : World) (A5 : Option Addr) (n5 c5 : Nat) (r5 : Option Nat) (F5 : Nat → Prop), EnVal r5 F5 w5 k0 t0 (.slice A5 n5 c5) (E (getR L x)) → (∀ i, F5 i → wr.heap.size ≤ i ∧ i < w5.heap.size) → (∀ i, r5 = some i → wr.heap.size ≤ i ∧ i < w5.heap.size ∧ ¬ F5 i) → Below wr.heap.size wr w5 →
        ∃ w7, (Instr.mapUpdate 56 (.map (some bc)) (ptr (getR L x)) (ptr w5.heap.size)).run Tryz.prog (w5.alloc (.cells #[.int .i64 k0, .string t0, .slice A5 n5 c5] 59)) = .ok () w7 ∧
          ∃ l2 U2 F2 R2 E2, CpB w w7 bm r bc gk bk L E left lf cnt l2 U2 F2 R2 L' E2 ∧ Lk l2 L' (some w5.heap.size) ∧ Ec U2 F2 R2 w7 L' E2 w5.heap.size ∧ (getR L x, w5.heap.size) ∈ l2 ∧ (w7.cell? ⟨getR L x, 0, none⟩ = some (.int .i64 k0) ∧ w7.cell? ⟨getR L x, 1, none⟩ = some (.string t0) ∧ w7.cell? ⟨getR L x, 2, none⟩ = some (.slice A0 n0 c0')) := by
  have hsrc := hh.below h.bl
  have hm := mem_get hs
  obtain ⟨k0, t0, v0, hb0, hv0⟩ := hsrc.ent _ hm
  obtain ⟨A0, n0, c0', rfl⟩ := hv0.form
  have hcell : ∀ W : World, W.heap[getR L x]? = wr.heap[getR L x]? → W.cell? ⟨getR L x, 0, none⟩ = some (.int .i64 k0) ∧ W.cell? ⟨getR L x, 1, none⟩ = some (.string t0) ∧ W.cell? ⟨getR L x, 2, none⟩ = some (.slice A0 n0 c0') := fun W hW => by
    have hB : Blk W (getR L x) 59 #[.int .i64 k0, .string t0, .slice A0 n0 c0'] := hW.trans hb0
    exact ⟨hB.cell 0, hB.cell 1, hB.cell 2⟩
  refine ⟨k0, t0, A0, n0, c0', fun W hb => hcell W (hb.block _ hb0.lt), ?_, fun w5 A5 n5 c5 r5 F5 hv5 hF5 hr5 hb5 => ?_⟩
  · refine (cCopyEn (W := wr.drew) (hv0.stay (fun _ _ _ => rfl) (fun _ h => h)) (fun i hi => hsrc.ul i (hsrc.ur _ hm i hi)) (fun i hi => hsrc.fl i hi)).mono ?_
    rintro e w5 ⟨A5, n5, c5, rfl, r5, F5, h1, h2, h3, h4⟩
    exact ⟨A5, n5, c5, rfl, r5, F5, h1, h2, h3, ((Below.refl wr.heap.size wr).drew).trans h4⟩
  · have hbW : Below wr.heap.size wr (w5.alloc (.cells #[.int .i64 k0, .string t0, .slice A5 n5 c5] 59)) := hb5.alloc hb5.size _
    obtain ⟨w7, q1, q2, q3, _⟩ := (h.pm.stay (hbW.block _ h.pm.lt)).store Tryz.underlying56 Tryz.underlying57 hj hj3 (((hsrc.below hbW)).held hs) (h.keys hh hbW) hno w5.heap.size
    obtain ⟨U2, F2, R2, E2, a1, a2, a3⟩ := h.make hl hs hno hb5 hv5 hF5 hr5 q3 q2
    have hne : getR L x ≠ bc := (h.pm.stay (w' := wr) rfl).ne hb0
    have hlt := hb0.lt
    exact ⟨w7, q1, _, U2, F2, R2, E2, a1, a2, a3, List.mem_append_right _ (List.mem_singleton.2 rfl), hcell w7 ((q3.block _ (Nat.lt_of_lt_of_le hlt hbW.size) hne).trans (hbW.block _ hlt))⟩
end
section
variable {U F : Nat → Prop} {R : Nat → Option Nat} {w w' : World} {g bm : Nat} {L : List Ent} {E : Nat → En}
set_option maxRecDepth 100000 in
set_option maxHeartbeats 4000000 in
/-- Copy. -/
theorem cCopy (h : StAt U F R w g bm L E) : Calls Tryz.prog 12 #[.pointer (some ⟨g, 0, none⟩)] w fun e w' => ∃ g' bm' U' F' R' L' E', e = .returned (.pointer (some ⟨g', 0, none⟩)) ∧ StAt U' F' R' w' g' bm' L' E' ∧ Iso L E L' E' ∧ (∀ i, U' i → w.heap.size ≤ i) ∧ (∀ i, F' i → w.heap.size ≤ i) ∧ w.heap.size ≤ g' ∧ Below w.heap.size w w' := by
  obtain ⟨j0, hj0, hy0, hy1, hy2⟩ := info_parts sentry_info
  have hj3 : j0.size ≠ 0 := by rw [hy1]; decide
  have hmm := @run_makeMap Tryz.prog
  have qm := fun (w : World) => run_eql_map_nil (P := Tryz.prog) w 44 _ _ (some bm) Tryz.underlying44
  have c0 := h.c0
  have HNew := Lib.hid (cNew w E)
  have HH := Lib.hid h
  have HC0 := Lib.hid (fun (w1 : World) (hb : Below w.heap.size w w1) => (h.below hb).c0)
  clear h
  go_enter Tryz.func12, Tryz.ntmps12
  go_wp2_with (first
    | (go_at_call 7; refine HNew.out.mono ?_; rintro e w1 ⟨rfl, hst, hb1⟩; have HSt := Lib.hid hst; have c1 := HC0.out _ hb1; have c2 := HC0.out _ (hb1.alloc hb1.size (.map #[] 0)); clear hst)
    | (at_range; refine wpList_range_own _ rfl _ 44 rfl 9 57 law Tryz.underlying44 RR bm L.length (DB L) rfl (HH.out.below (hb1.alloc hb1.size (.map #[] 0))).own ?_; intro w0 hrg0 hg0 hs0))
  go_frame
  have e1 : (w1.alloc (.map #[] 0)).heap.size = w1.heap.size + 1 := by simp
  rw [e1] at hrg0 hs0 ⊢
  have hSt := HSt.out
  have hgl := HSt.out.blk.lt
  have hml := HH.out.own.lt
  have hsz1 := hb1.size
  have hT0 : Turn (fun _ => False) (w1.alloc (.map #[] 0)) w0 := ⟨hg0.os, hg0.tape, hg0.output, hg0.size, fun i hi _ => hg0.block i hi (by simp)⟩
  have hb0 : Below w1.heap.size w1 w0 := ((Below.refl w1.heap.size w1).alloc (Nat.le_refl _) (.map #[] 0)).trans ⟨hT0.os, hT0.tape, hT0.output, hT0.size, fun i hi => hT0.block i (by rw [e1]; omega) id⟩
  have hB0 : CpB w w0 bm (w1.heap.size + 1) w1.heap.size (w.heap.size + 1) w.heap.size L E (Maps.has (DB L)) (Maps.has (DB L)) (Maps.size (DB L)) [] (· = w.heap.size) (fun _ => False) (fun _ => none) [] E :=
    ⟨hrg0, (PM.made w1).stay (hT0.block _ (by rw [e1]; omega) id), HSt.out.below hb0, CP.start L E E HH.out.srt, ntrans hb1 hb0, Nat.le_trans hsz1 hb0.size, hml, fun i e => by omega, fun _ h => h.elim, by omega, ⟨by omega, by omega, id, by omega, by omega⟩, ⟨hsz1, by omega, id, by omega⟩⟩
  have HB0 := Lib.hid hB0
  clear hSt hT0 hb0 hB0 hrg0 hg0 hs0 HSt c1 c2 hb1 HNew
  generalize w.heap.size = bk at HB0 ⊢
  generalize bk + 1 = gk at HB0 ⊢
  generalize w1.heap.size = bc at *
  generalize bc + 1 = r at HB0 ⊢
  clear hgl
  go_loopw [5, 6] (fun _ _ wr => ∃ (left : Lit → Bool) (cnt : Nat) (l : List (Nat × Nat)) (U' F' : Nat → Prop) (R' : Nat → Option Nat) (L' : List Ent) (E' : Nat → En), Hid (CpB w wr bm r bc gk bk L E left left cnt l U' F' R' L' E' ∧ Lk l L' none)) (fun _ _ wr => wr.rangeLeft bm r)
  case atStart => exact ⟨_, _, _, _, _, _, _, _, Lib.hid ⟨HB0.out, fun p hp => by cases hp⟩⟩
  case round =>
    obtain ⟨left, cnt, l, U', F', R', L', E', HR⟩ := hrel
    have hrg := HR.out.1.rg
    go_wp2_with (at_next; refine wpList_next_ranges _ rfl _ rfl 9 law RR (fun x : ByteArray => Value.string x) (fun v : Value => v) (fun key kl hk => ?_) (fun v y _ => ⟨v, rfl⟩) bm r L.length (DB L) left cnt rfl hrg ?_ ?_)
    · exact key_str_inv Tryz.underlying9 hk
    · intro hc0 hl0
      go_wp2
      go_ret
      exact ⟨gk, bk, U', F', R', L', E', rfl, HR.out.1.st, HR.out.1.cp.fin hl0, HR.out.1.u0, HR.out.1.f0, HR.out.1.g0, HR.out.1.bl⟩
    · intro x c kl a b w2 cnt1 hkey hlk hv hat hrg1 hlt hg1 hs1 hen
      obtain ⟨hx, rfl, hsx, rfl⟩ := next_key HH.out.srt hkey hv hat
      have hB2 := HR.out.1.next hrg1 hg1
      have HB2 := Lib.hid hB2
      clear hkey hv hat hrg1 hg1 hs1
      rcases hB2.looks HH.out hsx hj0 hj3 with ⟨hrun, hno⟩ | ⟨c, hrun, hc⟩
      · have HRun := Lib.hid hrun
        obtain ⟨k0, t0, A0, n0, c0', hs8, hcp, hmk⟩ := hB2.makes HR.out.2 HH.out hsx hno hj0 hj3
        have HS8 := Lib.hid hs8
        have HCp := Lib.hid hcp
        have HMk := Lib.hid hmk
        clear hrun hB2 hs8 hcp hmk hno
        unfold ptr at hen HRun HMk
        go_wp2_with (at_lookup; refine wpList_look_run rfl (.tmp 28) (.tmp 29) _ rfl _ _ rfl rfl _ _ HRun.out ?_)
        refine wp_region_held_drew (S := fun w' => w'.cell? ⟨getR L x, 0, none⟩ = some (.int .i64 k0) ∧ w'.cell? ⟨getR L x, 1, none⟩ = some (.string t0) ∧ w'.cell? ⟨getR L x, 2, none⟩ = some (.slice A0 n0 c0')) (by kernel_rfl) (HS8.out _ ((Below.refl _ _).drew)) (fun hHeld => ?_)
        refine wpAnyH_take (i := 0) (oi := _) (v := ?_) rfl (by kernel_rfl) (by kernel_rfl) (by kernel_rfl) (fun _ _ _ h => h) (Or.inl ⟨by rfl, ?_⟩) (by assumption) ?_
        rotate_left
        · (intro w hSw; (try dsimp only at hSw); first | (go_simp; done) | (go_simp; with_reducible rfl))
        try simp only [List.getElem_toArray, List.getElem_cons_zero, Act.put, List.setIfInBounds_toArray, List.set_cons_zero, List.set_cons_succ]
        refine wpAnyH_take (i := 1) (oi := _) (v := ?_) rfl (by kernel_rfl) (by kernel_rfl) (by kernel_rfl) (fun _ _ _ h => h) (Or.inl ⟨by rfl, ?_⟩) (by assumption) ?_
        rotate_left
        · (intro w hSw; (try dsimp only at hSw); first | (go_simp; done) | (go_simp; with_reducible rfl))
        try simp only [List.getElem_toArray, List.getElem_cons_succ, List.getElem_cons_zero, Act.put, List.setIfInBounds_toArray, List.set_cons_zero, List.set_cons_succ]
        refine wpAnyH_take (i := 2) (oi := _) (v := ?_) rfl (by kernel_rfl) (by kernel_rfl) (by kernel_rfl) (fun _ _ _ h => h) (Or.inl ⟨by rfl, ?_⟩) (by assumption) ?_
        rotate_left
        · (intro w hSw; (try dsimp only at hSw); first | (go_simp; done) | (go_simp; with_reducible rfl))
        try simp only [List.getElem_toArray, List.getElem_cons_succ, List.getElem_cons_zero, Act.put, List.setIfInBounds_toArray, List.set_cons_zero, List.set_cons_succ]
        refine wpAnyH_take (i := 3) (oi := _) (v := ?_) rfl (by kernel_rfl) (by kernel_rfl) (by kernel_rfl) (fun _ _ _ h => h) (Or.inl ⟨by rfl, ?_⟩) (by assumption) ?_
        rotate_left
        · (intro w hSw; (try dsimp only at hSw); first | (go_simp; done) | (go_simp; with_reducible rfl))
        try simp only [List.getElem_toArray, List.getElem_cons_succ, List.getElem_cons_zero, Act.put, List.setIfInBounds_toArray, List.set_cons_zero, List.set_cons_succ]
        refine wpAnyH_take (i := 4) (oi := _) (v := ?_) rfl (by kernel_rfl) (by kernel_rfl) (by kernel_rfl) (fun _ _ _ h => h) (Or.inl ⟨by rfl, ?_⟩) (by assumption) ?_
        rotate_left
        · (intro w hSw; (try dsimp only at hSw); first | (go_simp; done) | (go_simp; with_reducible rfl))
        try simp only [List.getElem_toArray, List.getElem_cons_succ, List.getElem_cons_zero, Act.put, List.setIfInBounds_toArray, List.set_cons_zero, List.set_cons_succ]
        refine wpAnyH_take (i := 5) (oi := _) (v := ?_) rfl (by kernel_rfl) (by kernel_rfl) (by kernel_rfl) (fun _ _ _ h => h) (Or.inl ⟨by rfl, ?_⟩) (by assumption) ?_
        rotate_left
        · (intro w hSw; (try dsimp only at hSw); first | (go_simp; done) | (go_simp; with_reducible rfl))
        try simp only [List.getElem_toArray, List.getElem_cons_succ, List.getElem_cons_zero, Act.put, List.setIfInBounds_toArray, List.set_cons_zero, List.set_cons_succ]
        refine wpAnyH_take (i := 6) (oi := _) (v := ?_) rfl (by kernel_rfl) (by kernel_rfl) (by kernel_rfl) (fun _ _ _ h => h) (Or.inl ⟨by rfl, ?_⟩) (by assumption) ?_
        rotate_left
        · (intro w hSw; (try dsimp only at hSw); first | (go_simp; done) | (go_simp; with_reducible rfl))
        try simp only [List.getElem_toArray, List.getElem_cons_succ, List.getElem_cons_zero, Act.put, List.setIfInBounds_toArray, List.set_cons_zero, List.set_cons_succ]
        refine wpAnyH_take (i := 7) (oi := _) (v := ?_) rfl (by kernel_rfl) (by kernel_rfl) (by kernel_rfl) (fun _ _ _ h => h) (Or.inl ⟨by rfl, ?_⟩) (by assumption) ?_
        rotate_left
        · (intro w hSw; (try dsimp only at hSw); first | (go_simp; done) | (go_simp; with_reducible rfl))
        try simp only [List.getElem_toArray, List.getElem_cons_succ, List.getElem_cons_zero, Act.put, List.setIfInBounds_toArray, List.set_cons_zero, List.set_cons_succ]
        refine wpAnyH_take (i := 8) (oi := _) (v := ?_) rfl (by kernel_rfl) (by kernel_rfl) (by kernel_rfl) (fun _ _ _ h => h) (Or.inl ⟨by rfl, ?_⟩) (by assumption) ?_
        rotate_left
        · (intro w hSw; (try dsimp only at hSw); first | (go_simp; done) | (go_simp; with_reducible rfl))
        try simp only [List.getElem_toArray, List.getElem_cons_succ, List.getElem_cons_zero, Act.put, List.setIfInBounds_toArray, List.set_cons_zero, List.set_cons_succ]
        refine wpAnyH_take (i := 9) (oi := _) (v := ?_) rfl (by kernel_rfl) (by kernel_rfl) (by kernel_rfl) (fun _ _ _ h => h) (Or.inl ⟨by rfl, ?_⟩) (by assumption) ?_
        rotate_left
        · (intro w hSw; (try dsimp only at hSw); first | (go_simp; done) | (go_simp; with_reducible rfl))
        try simp only [List.getElem_toArray, List.getElem_cons_succ, List.getElem_cons_zero, Act.put, List.setIfInBounds_toArray, List.set_cons_zero, List.set_cons_succ]
        refine wpAnyH_take (i := 10) (oi := _) (v := ?_) rfl (by kernel_rfl) (by kernel_rfl) (by kernel_rfl) (fun _ _ _ h => h) (Or.inl ⟨by rfl, ?_⟩) (by assumption) ?_
        rotate_left
        · (intro w hSw; (try dsimp only at hSw); first | (go_simp; done) | (go_simp; with_reducible rfl))
        try simp only [List.getElem_toArray, List.getElem_cons_succ, List.getElem_cons_zero, Act.put, List.setIfInBounds_toArray, List.set_cons_zero, List.set_cons_succ]
        refine wpAnyH_take (i := 11) (oi := _) (v := ?_) rfl (by kernel_rfl) (by kernel_rfl) (by kernel_rfl) (fun _ _ _ h => h) (Or.inl ⟨by rfl, ?_⟩) (by assumption) ?_
        rotate_left
        · (intro w hSw; (try dsimp only at hSw); first | (go_simp; done) | (go_simp; with_reducible rfl))
        try simp only [List.getElem_toArray, List.getElem_cons_succ, List.getElem_cons_zero, Act.put, List.setIfInBounds_toArray, List.set_cons_zero, List.set_cons_succ]
        refine wpAnyH_take (i := 12) (oi := _) (v := ?_) rfl (by kernel_rfl) (by kernel_rfl) (by kernel_rfl) (fun _ _ _ h => h) (Or.inl ⟨by rfl, ?_⟩) (by assumption) ?_
        rotate_left
        · (intro w hSw; (try dsimp only at hSw); first | (go_simp; done) | (go_simp; with_reducible rfl))
        try simp only [List.getElem_toArray, List.getElem_cons_succ, List.getElem_cons_zero, Act.put, List.setIfInBounds_toArray, List.set_cons_zero, List.set_cons_succ]
        refine wpAnyH_take (i := 13) (oi := _) (v := ?_) rfl (by kernel_rfl) (by kernel_rfl) (by kernel_rfl) (fun _ _ _ h => h) (Or.inl ⟨by rfl, ?_⟩) (by assumption) ?_
        rotate_left
        · (intro w hSw; (try dsimp only at hSw); first | (go_simp; done) | (go_simp; with_reducible rfl))
        try simp only [List.getElem_toArray, List.getElem_cons_succ, List.getElem_cons_zero, Act.put, List.setIfInBounds_toArray, List.set_cons_zero, List.set_cons_succ]
        refine wpAnyH_ready (rs := [14]) (by kernel_rfl) (by simp) ?_
        refine AllReadyH.cons (o := _) (by simp only [List.getElem?_toArray, List.getElem?_cons_succ, List.getElem?_cons_zero]; rfl) (fun K hK => ?_) ?_
        · go_simp
          go_at_call 37; refine HCp.out.mono ?_; rintro e w5 ⟨A5, n5, c5, rfl, r5, F5, hv5, hF5, hr5, hb5⟩; obtain ⟨w7, hup, l2, U2, F2, R2, E2, hB7, hL7, hE7, hc7, hs7⟩ := HMk.out w5 A5 n5 c5 r5 F5 hv5 hF5 hr5 hb5; have HUp := Lib.hid hup; have HB7 := Lib.hid hB7; have HL7 := Lib.hid hL7; have HE7 := Lib.hid hE7; have HC7 := Lib.hid hc7; have HS7 := Lib.hid hs7; have HBc := Lib.hid hb5; clear hup hB7 hL7 hE7 hc7 hs7 hv5 hF5 hr5
          refine hK.out _ _ ?_ (fun hHeld => ?_)
          · first | exact HS8.out _ ((Below.refl _ _).drew) | exact HS8.out _ HBc.out | exact HS8.out _ (HBc.out.alloc HBc.out.size _) | exact HS7.out
          clear hK K
          try simp only [List.getElem_toArray, List.getElem_cons_succ, List.getElem_cons_zero, Act.put, List.setIfInBounds_toArray, List.set_cons_zero, List.set_cons_succ]
          refine wpAnyH_take (i := 15) (oi := _) (v := ?_) rfl (by kernel_rfl) (by kernel_rfl) (by kernel_rfl) (fun _ _ _ h => h) (Or.inl ⟨by rfl, ?_⟩) (by assumption) ?_
          rotate_left
          · (intro w hSw; (try dsimp only at hSw); first | (go_simp; done) | (go_simp; with_reducible rfl))
          try simp only [List.getElem_toArray, List.getElem_cons_succ, List.getElem_cons_zero, Act.put, List.setIfInBounds_toArray, List.set_cons_zero, List.set_cons_succ]
          refine wpAnyH_ready (rs := [16]) (by kernel_rfl) (by simp) ?_
          refine AllReadyH.cons (o := _) (by simp only [List.getElem?_toArray, List.getElem?_cons_succ, List.getElem?_cons_zero]; rfl) (fun K hK => ?_) ?_
          · go_simp
            refine hK.out _ _ ?_ (fun hHeld => ?_)
            · first | exact HS8.out _ ((Below.refl _ _).drew) | exact HS8.out _ HBc.out | exact HS8.out _ (HBc.out.alloc HBc.out.size _) | exact HS7.out
            clear hK K
            try simp only [List.getElem_toArray, List.getElem_cons_succ, List.getElem_cons_zero, Act.put, List.setIfInBounds_toArray, List.set_cons_zero, List.set_cons_succ]
            refine wpAnyH_ready (rs := [17]) (by kernel_rfl) (by simp) ?_
            refine AllReadyH.cons (o := _) (by simp only [List.getElem?_toArray, List.getElem?_cons_succ, List.getElem?_cons_zero]; rfl) (fun K hK => ?_) ?_
            · refine step_upd rfl (.tmp 32) (.tmp 33) (.tmp 48) _ rfl _ _ _ rfl rfl rfl _ HUp.out ?_
              refine hK.out _ _ ?_ (fun hHeld => ?_)
              · first | exact HS8.out _ ((Below.refl _ _).drew) | exact HS8.out _ HBc.out | exact HS8.out _ (HBc.out.alloc HBc.out.size _) | exact HS7.out
              clear hK K
              try simp only [Act.put]
              refine wpAnyH_done (by kernel_rfl) ?_ _
              go_wp2_with fail
              obtain ⟨hl9, hg9, w3, hu9, hg3, he9⟩ := HB7.out.ready9 HL7.out HE7.out HC7.out HH.out hsx hx hlk hj0 hj3
              have HL := Lib.hid hl9
              have HG := Lib.hid hg9
              have HU := Lib.hid hu9
              have HG3 := Lib.hid hg3
              have HE := Lib.hid he9
              clear hl9 hg9 hu9 hg3 he9
              unfold ptr at HL HU
              refine wp_region_held_drew (S := fun w' => w'.cell? ⟨gk, 0, none⟩ = some (.map (some bk))) (by kernel_rfl) HG.out (fun hHeld => ?_)
              refine wpAnyH_take (i := 0) (oi := _) (v := ?_) rfl (by kernel_rfl) (by kernel_rfl) (by kernel_rfl) (fun _ _ _ h => h) (Or.inl ⟨by rfl, ?_⟩) (by assumption) ?_
              rotate_left
              · (intro w hSw; (try dsimp only at hSw); first | (go_simp; done) | (go_simp; with_reducible rfl))
              try simp only [List.getElem_toArray, List.getElem_cons_zero, Act.put, List.setIfInBounds_toArray, List.set_cons_zero, List.set_cons_succ]
              refine wpAnyH_take (i := 1) (oi := _) (v := ?_) rfl (by kernel_rfl) (by kernel_rfl) (by kernel_rfl) (fun _ _ _ h => h) (Or.inl ⟨by rfl, ?_⟩) (by assumption) ?_
              rotate_left
              · (intro w hSw; (try dsimp only at hSw); first | (go_simp; done) | (go_simp; with_reducible rfl))
              try simp only [List.getElem_toArray, List.getElem_cons_succ, List.getElem_cons_zero, Act.put, List.setIfInBounds_toArray, List.set_cons_zero, List.set_cons_succ]
              refine wpAnyH_take (i := 2) (oi := _) (v := ?_) rfl (by kernel_rfl) (by kernel_rfl) (by kernel_rfl) (fun _ _ _ h => h) (Or.inl ⟨by rfl, ?_⟩) (by assumption) ?_
              rotate_left
              · (intro w hSw; (try dsimp only at hSw); first | (go_simp; done) | (go_simp; with_reducible rfl))
              try simp only [List.getElem_toArray, List.getElem_cons_succ, List.getElem_cons_zero, Act.put, List.setIfInBounds_toArray, List.set_cons_zero, List.set_cons_succ]
              refine wpAnyH_take (i := 3) (oi := _) (v := ?_) rfl (by kernel_rfl) (by kernel_rfl) (by kernel_rfl) (fun _ _ _ h => h) (Or.inl ⟨by rfl, ?_⟩) (by assumption) ?_
              rotate_left
              · (intro w hSw; (try dsimp only at hSw); first | (go_simp; done) | (go_simp; with_reducible rfl))
              try simp only [List.getElem_toArray, List.getElem_cons_succ, List.getElem_cons_zero, Act.put, List.setIfInBounds_toArray, List.set_cons_zero, List.set_cons_succ]
              refine wpAnyH_take (i := 4) (oi := _) (v := ?_) rfl (by kernel_rfl) (by kernel_rfl) (by kernel_rfl) (fun _ _ _ h => h) (Or.inl ⟨by rfl, ?_⟩) (by assumption) ?_
              rotate_left
              · (intro w hSw; (try dsimp only at hSw); first | (go_simp; done) | (go_simp; with_reducible rfl))
              try simp only [List.getElem_toArray, List.getElem_cons_succ, List.getElem_cons_zero, Act.put, List.setIfInBounds_toArray, List.set_cons_zero, List.set_cons_succ]
              refine wpAnyH_take (i := 5) (oi := _) (v := ?_) rfl (by kernel_rfl) (by kernel_rfl) (by kernel_rfl) (fun _ _ _ h => h) (Or.inl ⟨by rfl, ?_⟩) (by assumption) ?_
              rotate_left
              · (intro w hSw; (try dsimp only at hSw); first | (go_simp; done) | (go_simp; with_reducible rfl))
              try simp only [List.getElem_toArray, List.getElem_cons_succ, List.getElem_cons_zero, Act.put, List.setIfInBounds_toArray, List.set_cons_zero, List.set_cons_succ]
              refine wpAnyH_take (i := 6) (oi := _) (v := ?_) rfl (by kernel_rfl) (by kernel_rfl) (by kernel_rfl) (fun _ _ _ h => h) (Or.inl ⟨by rfl, ?_⟩) (by assumption) ?_
              rotate_left
              · (intro w hSw; (try dsimp only at hSw); first | (go_simp; done) | (go_simp; with_reducible rfl))
              try simp only [List.getElem_toArray, List.getElem_cons_succ, List.getElem_cons_zero, Act.put, List.setIfInBounds_toArray, List.set_cons_zero, List.set_cons_succ]
              refine wpAnyH_ready (rs := [7]) (by kernel_rfl) (by simp) ?_
              refine AllReadyH.cons (o := _) (by simp only [List.getElem?_toArray, List.getElem?_cons_succ, List.getElem?_cons_zero]; rfl) (fun K hK => ?_) ?_
              · refine step_look rfl (.tmp 54) (.tmp 55) _ rfl _ _ rfl rfl _ _ HL.out ?_
                refine hK.out _ _ ?_ (fun hHeld => ?_)
                · exact HG.out
                clear hK K
                try simp only [Act.put, List.setIfInBounds_toArray, List.set_cons_zero, List.set_cons_succ]
                refine wpAnyH_ready (rs := [8]) (by kernel_rfl) (by simp) ?_
                refine AllReadyH.cons (o := _) (by simp only [List.getElem?_toArray, List.getElem?_cons_succ, List.getElem?_cons_zero]; rfl) (fun K hK => ?_) ?_
                · refine step_upd rfl (.tmp 52) (.tmp 53) (.tmp 56) _ rfl _ _ _ rfl rfl rfl _ HU.out ?_
                  refine hK.out _ _ ?_ (fun hHeld => ?_)
                  · exact HG3.out
                  clear hK K
                  try simp only [Act.put]
                  refine wpAnyH_done (by kernel_rfl) ?_ _
                  go_wp2
                  go_roundw
                  case rel => exact ⟨_, _, _, _, _, _, _, _, HE⟩
                  case measure => rw [HE.out.1.rg.left_eq, hrg.left_eq]; exact hlt
                exact AllReadyH.nil
              exact AllReadyH.nil
            exact AllReadyH.nil
          exact AllReadyH.nil
        exact AllReadyH.nil
      · have HRun := Lib.hid hrun
        obtain ⟨hl9, hg9, w3, hu9, hg3, he9⟩ := hB2.ready9 (fun p hp => (HR.out.2 p hp).imp (fun e => by cases e) id) (HR.out.2.ec hB2 hc) hc HH.out hsx hx hlk hj0 hj3
        have HL := Lib.hid hl9
        have HG := Lib.hid hg9
        have HU := Lib.hid hu9
        have HG3 := Lib.hid hg3
        have HE := Lib.hid he9
        clear hrun hB2 hl9 hg9 hu9 hg3 he9 hc
        unfold ptr at hen HRun HL HU
        go_wp2_with (at_lookup; refine wpList_look_run rfl (.tmp 28) (.tmp 29) _ rfl _ _ rfl rfl _ _ HRun.out ?_)
        refine wp_region_held_drew (S := fun w' => w'.cell? ⟨gk, 0, none⟩ = some (.map (some bk))) (by kernel_rfl) HG.out (fun hHeld => ?_)
        refine wpAnyH_take (i := 0) (oi := _) (v := ?_) rfl (by kernel_rfl) (by kernel_rfl) (by kernel_rfl) (fun _ _ _ h => h) (Or.inl ⟨by rfl, ?_⟩) (by assumption) ?_
        rotate_left
        · (intro w hSw; (try dsimp only at hSw); first | (go_simp; done) | (go_simp; with_reducible rfl))
        try simp only [List.getElem_toArray, List.getElem_cons_zero, Act.put, List.setIfInBounds_toArray, List.set_cons_zero, List.set_cons_succ]
        refine wpAnyH_take (i := 1) (oi := _) (v := ?_) rfl (by kernel_rfl) (by kernel_rfl) (by kernel_rfl) (fun _ _ _ h => h) (Or.inl ⟨by rfl, ?_⟩) (by assumption) ?_
        rotate_left
        · (intro w hSw; (try dsimp only at hSw); first | (go_simp; done) | (go_simp; with_reducible rfl))
        try simp only [List.getElem_toArray, List.getElem_cons_succ, List.getElem_cons_zero, Act.put, List.setIfInBounds_toArray, List.set_cons_zero, List.set_cons_succ]
        refine wpAnyH_take (i := 2) (oi := _) (v := ?_) rfl (by kernel_rfl) (by kernel_rfl) (by kernel_rfl) (fun _ _ _ h => h) (Or.inl ⟨by rfl, ?_⟩) (by assumption) ?_
        rotate_left
        · (intro w hSw; (try dsimp only at hSw); first | (go_simp; done) | (go_simp; with_reducible rfl))
        try simp only [List.getElem_toArray, List.getElem_cons_succ, List.getElem_cons_zero, Act.put, List.setIfInBounds_toArray, List.set_cons_zero, List.set_cons_succ]
        refine wpAnyH_take (i := 3) (oi := _) (v := ?_) rfl (by kernel_rfl) (by kernel_rfl) (by kernel_rfl) (fun _ _ _ h => h) (Or.inl ⟨by rfl, ?_⟩) (by assumption) ?_
        rotate_left
        · (intro w hSw; (try dsimp only at hSw); first | (go_simp; done) | (go_simp; with_reducible rfl))
        try simp only [List.getElem_toArray, List.getElem_cons_succ, List.getElem_cons_zero, Act.put, List.setIfInBounds_toArray, List.set_cons_zero, List.set_cons_succ]
        refine wpAnyH_take (i := 4) (oi := _) (v := ?_) rfl (by kernel_rfl) (by kernel_rfl) (by kernel_rfl) (fun _ _ _ h => h) (Or.inl ⟨by rfl, ?_⟩) (by assumption) ?_
        rotate_left
        · (intro w hSw; (try dsimp only at hSw); first | (go_simp; done) | (go_simp; with_reducible rfl))
        try simp only [List.getElem_toArray, List.getElem_cons_succ, List.getElem_cons_zero, Act.put, List.setIfInBounds_toArray, List.set_cons_zero, List.set_cons_succ]
        refine wpAnyH_take (i := 5) (oi := _) (v := ?_) rfl (by kernel_rfl) (by kernel_rfl) (by kernel_rfl) (fun _ _ _ h => h) (Or.inl ⟨by rfl, ?_⟩) (by assumption) ?_
        rotate_left
        · (intro w hSw; (try dsimp only at hSw); first | (go_simp; done) | (go_simp; with_reducible rfl))
        try simp only [List.getElem_toArray, List.getElem_cons_succ, List.getElem_cons_zero, Act.put, List.setIfInBounds_toArray, List.set_cons_zero, List.set_cons_succ]
        refine wpAnyH_take (i := 6) (oi := _) (v := ?_) rfl (by kernel_rfl) (by kernel_rfl) (by kernel_rfl) (fun _ _ _ h => h) (Or.inl ⟨by rfl, ?_⟩) (by assumption) ?_
        rotate_left
        · (intro w hSw; (try dsimp only at hSw); first | (go_simp; done) | (go_simp; with_reducible rfl))
        try simp only [List.getElem_toArray, List.getElem_cons_succ, List.getElem_cons_zero, Act.put, List.setIfInBounds_toArray, List.set_cons_zero, List.set_cons_succ]
        refine wpAnyH_ready (rs := [7]) (by kernel_rfl) (by simp) ?_
        refine AllReadyH.cons (o := _) (by simp only [List.getElem?_toArray, List.getElem?_cons_succ, List.getElem?_cons_zero]; rfl) (fun K hK => ?_) ?_
        · refine step_look rfl (.tmp 54) (.tmp 55) _ rfl _ _ rfl rfl _ _ HL.out ?_
          refine hK.out _ _ ?_ (fun hHeld => ?_)
          · exact HG.out
          clear hK K
          try simp only [Act.put, List.setIfInBounds_toArray, List.set_cons_zero, List.set_cons_succ]
          refine wpAnyH_ready (rs := [8]) (by kernel_rfl) (by simp) ?_
          refine AllReadyH.cons (o := _) (by simp only [List.getElem?_toArray, List.getElem?_cons_succ, List.getElem?_cons_zero]; rfl) (fun K hK => ?_) ?_
          · refine step_upd rfl (.tmp 52) (.tmp 53) (.tmp 56) _ rfl _ _ _ rfl rfl rfl _ HU.out ?_
            refine hK.out _ _ ?_ (fun hHeld => ?_)
            · exact HG3.out
            clear hK K
            try simp only [Act.put]
            refine wpAnyH_done (by kernel_rfl) ?_ _
            go_wp2
            go_roundw
            case rel => exact ⟨_, _, _, _, _, _, _, _, HE⟩
            case measure => rw [HE.out.1.rg.left_eq, hrg.left_eq]; exact hlt
          exact AllReadyH.nil
        exact AllReadyH.nil
end
end Go.Proofs.YtbedddgfijpbcaaGreat
