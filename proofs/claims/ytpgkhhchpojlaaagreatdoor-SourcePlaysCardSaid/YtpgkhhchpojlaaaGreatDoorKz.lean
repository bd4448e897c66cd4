/- The model of a stack, rows of frames and texts: what both stacks want. -/
import Derived.Test.YtpgkhhchpojlaaaGreatDoorEd
import Derived.Deep.RegionHeld3
import Derived.Deep.LoopGhost
import Derived.Deep.RegionLaw
import Derived.Deep.RegionHeldLaw
namespace Go.Proofs.YtpgkhhchpojlaaaGreatDoor
open Go.RowKit Go.Maps Go.WideMaps
theorem below_drewN {B : Nat} {a w : World} (h : Below B a w) (n : Nat) : Below B a (w.drewN n) := ⟨h.os, h.tape, h.output, h.size, h.block⟩
/-- A frame. -/
structure Fr where
  kind : Int
  name : ByteArray
  lines : List Ln
  args : List ByteArray
  pos : Nat
def Fr.over (f : Fr) : Bool := decide (f.lines.length ≤ f.pos)
def Fr.live (f : Fr) : Bool := !f.over
def Fr.is (k : Int) (f : Fr) : Bool := decide (f.kind = k)
def Fr.next (f : Fr) : Fr := { f with pos := f.pos + 1 }
def Fr.drop (n : Nat) (f : Fr) : Fr := { f with args := f.args.drop n }
/-- How many frames there are up to the topmost one that is as asked, with it; 0: none is. -/
def topN (p : Fr → Bool) : List Fr → Nat
  | [] => 0
  | f :: fs => if topN p fs = 0 then (if p f then 1 else 0) else topN p fs + 1
section
variable {p q : Fr → Bool}
theorem topN_le : ∀ (fs : List Fr), topN p fs ≤ fs.length
  | [] => Nat.le_refl _
  | f :: fs => by
    have := topN_le fs
    unfold topN
    rw [List.length_cons]
    split
    · split <;> omega
    · omega
theorem topN_above : ∀ {fs : List Fr} {j : Nat} {f : Fr}, topN p fs ≤ j → fs[j]? = some f → p f = false
  | [], j, f, _, h => by simp at h
  | g :: fs, 0, f, h, hf => by
    have hf : g = f := by simpa using hf
    subst hf
    unfold topN at h
    split at h
    · split at h
      · omega
      · rename_i hp; simpa using hp
    · omega
  | g :: fs, j + 1, f, h, hf => by
    refine topN_above (fs := fs) (j := j) ?_ (by simpa using hf)
    unfold topN at h
    split at h
    · omega
    · omega
theorem topN_at : ∀ {fs : List Fr}, 0 < topN p fs → ∃ f, fs[topN p fs - 1]? = some f ∧ p f = true
  | [], h => absurd h (Nat.lt_irrefl 0)
  | g :: fs, h => by
    by_cases h0 : topN p fs = 0
    · have e : topN p (g :: fs) = if p g then 1 else 0 := by unfold topN; rw [if_pos h0]
      rw [e] at h ⊢
      cases hp : p g
      · rw [hp] at h; exact absurd h (Nat.lt_irrefl 0)
      · exact ⟨g, rfl, hp⟩
    · have e : topN p (g :: fs) = topN p fs + 1 := by
        conv => lhs; unfold topN
        rw [if_neg h0]
      obtain ⟨f, h1, h2⟩ := topN_at (fs := fs) (by omega)
      refine ⟨f, ?_, h2⟩
      rw [e, show topN p fs + 1 - 1 = (topN p fs - 1) + 1 by omega]
      simpa using h1
theorem topN_of {fs : List Fr} {n : Nat} (_h1 : n ≤ fs.length) (h2 : ∀ (j : Nat) f, n ≤ j → fs[j]? = some f → p f = false) (h3 : 0 < n → ∃ f, fs[n - 1]? = some f ∧ p f = true) : topN p fs = n := by
  rcases Nat.lt_trichotomy (topN p fs) n with h | h | h
  · obtain ⟨f, h4, h5⟩ := h3 (by omega)
    have h6 := topN_above (p := p) (fs := fs) (j := n - 1) (by omega) h4
    rw [h6] at h5
    cases h5
  · exact h
  · obtain ⟨f, h4, h5⟩ := topN_at (p := p) (fs := fs) (by omega)
    rw [h2 _ f (by omega) h4] at h5
    cases h5
theorem topN_congr {fs : List Fr} (h : ∀ f ∈ fs, p f = q f) : topN p fs = topN q fs := by
  refine topN_of (topN_le _) (fun j f hj hf => ?_) (fun h0 => ?_)
  · rw [h f (List.mem_of_getElem? hf)]; exact topN_above hj hf
  · obtain ⟨f, h1, h2⟩ := topN_at h0
    exact ⟨f, h1, by rw [h f (List.mem_of_getElem? h1)]; exact h2⟩
/-- The topmost of two kinds is the topmost of either. -/
theorem topN_or {fs : List Fr} : topN (fun f => p f || q f) fs = max (topN p fs) (topN q fs) := by
  refine topN_of (Nat.max_le.2 ⟨topN_le _, topN_le _⟩) (fun j f hj hf => ?_) (fun h0 => ?_)
  · rw [topN_above (Nat.le_trans (Nat.le_max_left _ _) hj) hf, topN_above (Nat.le_trans (Nat.le_max_right _ _) hj) hf]; rfl
  · rcases Nat.le_total (topN p fs) (topN q fs) with h | h
    · rw [Nat.max_eq_right h] at h0 ⊢
      obtain ⟨f, h1, h2⟩ := topN_at h0
      exact ⟨f, h1, by rw [h2]; exact Bool.or_true _⟩
    · rw [Nat.max_eq_left h] at h0 ⊢
      obtain ⟨f, h1, h2⟩ := topN_at h0
      exact ⟨f, h1, by rw [h2]; rfl⟩
end
/-- How many frames stay where one is put on top: what waits and is at its end is taken away. -/
def baseN (fs : List Fr) : Nat := topN (fun f => !(f.is 3 && f.over)) fs
def psE (fs : List Fr) : Int := if 50 ≤ baseN fs then 2 else 0
def psF (fs : List Fr) (f : Fr) : List Fr := if 50 ≤ baseN fs then fs else fs.take (baseN fs) ++ [f]
def zLn : Ln := ⟨⟨#[]⟩, false, 0, 0, []⟩
def zFr : Fr := ⟨0, ⟨#[]⟩, [], [], 0⟩
/-- The frame at a place. -/
def frI (fs : List Fr) (k : Nat) : Fr := (fs[k]?).getD zFr
/-- Next. -/
def liveN (fs : List Fr) : Nat := topN Fr.live fs
def nxE (fs : List Fr) : Int := if liveN fs = 0 then 3 else 0
def nxL (fs : List Fr) : Ln := if liveN fs = 0 then zLn else ((frI fs (liveN fs - 1)).lines[(frI fs (liveN fs - 1)).pos]?).getD zLn
def nxF (fs : List Fr) : List Fr := (fs.take (liveN fs)).modify (liveN fs - 1) Fr.next
/-- Return. -/
def macN (fs : List Fr) : Nat := topN (Fr.is 2) fs
def filN (fs : List Fr) : Nat := topN (Fr.is 1) fs
def lowN (fs : List Fr) : Nat := fs.findIdx (Fr.is 2)
def rtE (fs : List Fr) : Int := if macN fs = 0 then 8 else 0
def rtF (all : Bool) (fs : List Fr) : List Fr := if macN fs = 0 then fs else if all then fs.take (lowN fs) else fs.take (macN fs - 1)
/-- Instead. -/
def isE (fs : List Fr) : Int := if filN fs = 0 then 8 else 0
def isF (fs : List Fr) (f : Fr) : List Fr := if filN fs = 0 then fs else fs.take (filN fs - 1) ++ [f]
/-- Args. -/
def agL (fs : List Fr) : List ByteArray := if macN fs = 0 then [] else (frI fs (macN fs - 1)).args
/-- Shift. -/
def shE (fs : List Fr) (n : Int) : Int := if n < 0 ∨ 100 < n then 1 else if macN fs = 0 then 8 else 0
def shF (fs : List Fr) (n : Int) : List Fr := if n < 0 ∨ 100 < n then fs else if macN fs = 0 then fs else fs.modify (macN fs - 1) (Fr.drop n.toNat)
/-- Name, Line. -/
def nmN (fs : List Fr) : Nat := max (macN fs) (filN fs)
def nmS (fs : List Fr) : ByteArray := if nmN fs = 0 then ⟨#[]⟩ else (frI fs (nmN fs - 1)).name
def lnI (fs : List Fr) : Nat := if filN fs = 0 then 0 else (frI fs (filN fs - 1)).pos
/-- What a frame holds is right. -/
structure Fr.Ok (f : Fr) : Prop where
  kind : f.kind = 1 ∨ f.kind = 2 ∨ f.kind = 3
  name : f.name.size ≤ 100
  lines : f.lines.length ≤ 20000
  args : f.args.length * 16 ≤ 140737488355328
  pos : f.pos ≤ f.lines.length
theorem frI_at {fs : List Fr} {k : Nat} {f : Fr} (h : fs[k]? = some f) : frI fs k = f := by unfold frI; rw [h]; rfl
def AllOk (fs : List Fr) : Prop := fs.length ≤ 50 ∧ ∀ f ∈ fs, f.Ok
theorem AllOk.take {fs : List Fr} (h : AllOk fs) (n : Nat) : AllOk (fs.take n) := ⟨Nat.le_trans (by rw [List.length_take]; omega) h.1, fun f hf => h.2 f (List.mem_of_mem_take hf)⟩
theorem AllOk.push {fs : List Fr} (h : AllOk fs) {n : Nat} {f : Fr} (hf : f.Ok) (hn : n < 50) : AllOk (fs.take n ++ [f]) := by
  refine ⟨by rw [List.length_append, List.length_take]; simp; omega, fun g hg => ?_⟩
  rcases List.mem_append.1 hg with hg | hg
  · exact h.2 g (List.mem_of_mem_take hg)
  · rw [List.mem_singleton.1 hg]; exact hf
theorem mem_modify {fs : List Fr} {k : Nat} {u : Fr → Fr} {g : Fr} (h : g ∈ fs.modify k u) : g ∈ fs ∨ ∃ f, fs[k]? = some f ∧ g = u f := by
  obtain ⟨j, hj⟩ := List.getElem?_of_mem h
  rw [List.getElem?_modify] at hj
  cases hf : fs[j]? with
  | none => rw [hf] at hj; cases hj
  | some f =>
    rw [hf] at hj
    have hj : (if k = j then u f else f) = g := by simpa using hj
    by_cases e : k = j
    · subst e
      rw [if_pos rfl] at hj
      exact .inr ⟨f, hf, hj.symm⟩
    · rw [if_neg e] at hj
      rw [← hj]
      exact .inl (List.mem_of_getElem? hf)
section
variable {sz : Nat} {css : List (List Value)}
theorem fl_len (h : ∀ c ∈ css, c.length = sz) : css.flatten.length = css.length * sz := by
  induction css with
  | nil => simp
  | cons c css ih => rw [List.flatten_cons, List.length_append, List.length_cons, h c (List.mem_cons_self ..), ih (fun c hc => h c (List.mem_cons_of_mem _ hc)), Nat.add_mul, Nat.one_mul, Nat.add_comm]
theorem fl_take : ∀ {css : List (List Value)} (k : Nat), (∀ c ∈ css, c.length = sz) → (css.take k).flatten = css.flatten.take (k * sz)
  | [], k, _ => by simp
  | c :: css, 0, _ => by simp
  | c :: css, k + 1, h => by
    have hc := h c (List.mem_cons_self ..)
    rw [List.take_succ_cons, List.flatten_cons, List.flatten_cons, fl_take k (fun c hc => h c (List.mem_cons_of_mem _ hc)), show (k + 1) * sz = c.length + k * sz by rw [hc, Nat.add_mul]; omega, List.take_length_add_append]
theorem fl_drop : ∀ {css : List (List Value)} (k : Nat), (∀ c ∈ css, c.length = sz) → (css.drop k).flatten = css.flatten.drop (k * sz)
  | [], k, _ => by simp
  | c :: css, 0, _ => by simp
  | c :: css, k + 1, h => by
    have hc := h c (List.mem_cons_self ..)
    rw [List.drop_succ_cons, List.flatten_cons, fl_drop k (fun c hc => h c (List.mem_cons_of_mem _ hc)), show (k + 1) * sz = c.length + k * sz by rw [hc, Nat.add_mul]; omega, List.drop_length_add_append]
theorem fl_set : ∀ {css : List (List Value)} {k j : Nat} (u : Value), (∀ c ∈ css, c.length = sz) → j < sz → k < css.length → css.flatten.set (k * sz + j) u = (css.modify k (fun c => c.set j u)).flatten
  | [], k, _, _, _, _, hk => absurd hk (Nat.not_lt_zero _)
  | c :: css, 0, j, u, h, hj, _ => by
    have hc := h c (List.mem_cons_self ..)
    rw [Nat.zero_mul, Nat.zero_add, List.flatten_cons, List.modify_zero_cons, List.flatten_cons, List.set_append_left _ _ (by omega)]
  | c :: css, k + 1, j, u, h, hj, hk => by
    have hc := h c (List.mem_cons_self ..)
    rw [List.flatten_cons, show (k + 1) * sz + j = c.length + (k * sz + j) by rw [hc, Nat.add_mul]; omega, List.set_append_right _ _ (by omega), Nat.add_sub_cancel_left, fl_set u (fun c hc => h c (List.mem_cons_of_mem _ hc)) hj (by simpa using hk), List.modify_succ_cons, List.flatten_cons]
end
/-- The first of a row that is owned. -/
theorem own_take {w : World} {b n m size cap : Nat} {t : TypeId} {A : Option Addr} {xs : List Value} (h : w.ownsRow b t size (.slice A n cap) n xs) (hm : m ≤ n) : w.ownsRow b t size (.slice A m cap) m (xs.take (m * size)) := by
  have hms : m * size ≤ n * size := Nat.mul_le_mul_right _ hm
  refine ⟨by rw [List.length_take, h.1]; omega, ?_⟩
  rcases h.2 with ⟨h0, h1⟩ | ⟨g, cap', cur, hv, hg, hh, hn, hc, hs, ht⟩
  · injection h0 with e1 e2 e3
    subst e1 e3
    have : m = 0 := by omega
    subst this
    exact .inl ⟨rfl, rfl⟩
  · injection hv with e1 e2 e3
    subst e1 e3
    refine .inr ⟨g, cap, cur, rfl, hg, hh, by omega, hc, hs, ?_⟩
    rw [← ht, List.take_take, Nat.min_eq_left hms]
theorem own_cellAt {w : World} {b n size cap g : Nat} {t : TypeId} {xs : List Value} (h : w.ownsRow b t size (.slice (some ⟨g, 0, none⟩) n cap) n xs) {j : Nat} {u : Value} (hj : xs[j]? = some u) : w.cell? ⟨g, j, none⟩ = some u := by
  have hlt := (List.getElem?_eq_some_iff.1 hj).1
  rw [h.1] at hlt
  rw [h.cellAt j hlt, hj]
theorem own_pos {w : World} {b n size : Nat} {t : TypeId} {v : Value} {xs : List Value} (h : w.ownsRow b t size v n xs) (hn : 0 < n) : ∃ g cap, v = .slice (some ⟨g, 0, none⟩) n cap ∧ n ≤ cap ∧ cap ≤ maxLen ∧ v.ownBlock = some g := by
  rcases h.2 with ⟨_, e⟩ | ⟨g, cap, cur, rfl, _, _, hc, hm, _⟩
  · omega
  · exact ⟨g, cap, rfl, hc, hm, rfl⟩
/-- Texts in a row. -/
abbrev SsAt (K : Nat → Prop) := RowAt 1 strR K
theorem SsAt.stay {K K' : Nat → Prop} {w w' : World} {v : Value} {l : List ByteArray} (h : SsAt K w v l) (hw : Kept K w w') (hK : ∀ i, K i → K' i) : SsAt K' w' v l :=
  RowAt.imp h hK (fun _ _ _ _ ha hr => ⟨hw.cell ha hr.1, hr.2⟩)
/-- A frame with the values of its two rows. -/
abbrev Fv := Fr × Value × Value
def rkC (z : Fv) : List Value := [.int .i64 z.1.kind, .string z.1.name, z.2.1, z.2.2, .int .i64 (z.1.pos : Nat)]
def rkCs (zs : List Fv) : List Value := (zs.map rkC).flatten
/-- What a frame's rows hold. -/
def Holds2 (K : Nat → Prop) (w : World) (z : Fv) : Prop := LnsAt K w z.2.1 z.1.lines ∧ SsAt K w z.2.2 z.1.args
section
variable {K K' : Nat → Prop} {w w' : World} {zs : List Fv} {z : Fv} {k : Nat}
theorem Holds2.stay (h : Holds2 K w z) (hw : Kept K w w') (hK : ∀ i, K i → K' i) : Holds2 K' w' z := ⟨h.1.stay hw hK, h.2.stay hw hK⟩
theorem rk5 : ∀ c ∈ zs.map rkC, c.length = 5 := fun c hc => by
  obtain ⟨z, _, rfl⟩ := List.mem_map.1 hc
  rfl
theorem rkCs_len : (rkCs zs).length = zs.length * 5 := by unfold rkCs; rw [fl_len rk5, List.length_map]
theorem rkCs_app (a b : List Fv) : rkCs (a ++ b) = rkCs a ++ rkCs b := by unfold rkCs; rw [List.map_append, List.flatten_append]
theorem rkCs_one (z : Fv) : rkCs [z] = rkC z := by unfold rkCs; simp
theorem rkCs_take (k : Nat) : rkCs (zs.take k) = (rkCs zs).take (k * 5) := by unfold rkCs; rw [List.map_take, fl_take k rk5]
theorem rkCs_at (h : zs[k]? = some z) (j : Nat) (hj : j < 5) : (rkCs zs)[k * 5 + j]? = (rkC z)[j]? :=
  flat_at rk5 (by rw [List.getElem?_map, h]; rfl) hj
theorem rkCs_next (hk : k < zs.length) {p : Nat} (h : zs[k]? = some z) (hp : z.1.pos = p) : (rkCs zs).set (k * 5 + 4) (.int .i64 ((p + 1 : Nat) : Int)) = rkCs (zs.modify k (fun z => (z.1.next, z.2))) := by
  unfold rkCs
  rw [fl_set _ rk5 (by omega) (by rw [List.length_map]; exact hk)]
  congr 1
  apply List.ext_getElem?
  intro i
  rw [List.getElem?_modify, List.getElem?_map, List.getElem?_map, List.getElem?_modify]
  by_cases e : k = i
  · subst e
    rw [h]
    simp [rkC, Fr.next, hp]
  · cases zs[i]? <;> simp [e]
theorem rkCs_args (hk : k < zs.length) (v : Value) (n : Nat) : (rkCs zs).set (k * 5 + 3) v = rkCs (zs.modify k (fun z => (z.1.drop n, z.2.1, v))) := by
  unfold rkCs
  rw [fl_set _ rk5 (by omega) (by rw [List.length_map]; exact hk)]
  congr 1
  apply List.ext_getElem?
  intro i
  rw [List.getElem?_modify, List.getElem?_map, List.getElem?_map, List.getElem?_modify]
  by_cases e : k = i
  · subst e
    cases zs[k]? <;> simp [rkC, Fr.drop]
  · cases zs[i]? <;> simp [e]
theorem Holds2.one (h : Holds2 K w z) : ∀ u ∈ rkC z, u.oneCell' = true := by
  obtain ⟨A, c, e, _⟩ := h.1
  obtain ⟨A2, c2, e2, _⟩ := h.2
  intro u hu
  simp only [rkC, List.mem_cons, List.not_mem_nil, or_false] at hu
  rcases hu with rfl | rfl | rfl | rfl | rfl
  · rfl
  · rfl
  · rw [e]; rfl
  · rw [e2]; rfl
  · rfl
theorem one_all (h : ∀ z ∈ zs, Holds2 K w z) : ∀ u ∈ rkCs zs, u.oneCell' = true := by
  intro u hu
  obtain ⟨c, hc, hu⟩ := List.mem_flatten.1 hu
  obtain ⟨z, hz, rfl⟩ := List.mem_map.1 hc
  exact (h z hz).one u hu
end
section
variable {U K : Nat → Prop} {w w' : World} {x : Nat} {zs : List Fv} {v : Value} {fs : List Fr}
end
/-- append onto a new empty row, of what lies in a row. -/
theorem runCopy {e t : TypeId} {sz bytes : Nat} {zr : Value} (ht : Tryz.prog.underlying t = some (.slice e)) (hinfo : (Tryz.prog.info? e).map (fun i => (i.zero, i.size, i.bytes)) = some (some zr, sz, bytes)) (hzr : zr.cells.size = sz) (hsz : 0 < sz)
    (w1 : World) (ty : TypeId) (A : Option Addr) (n c : Nat) (xs : List Value) (hl : xs.length = n * sz) (hsrc : 0 < n → ∃ g off, A = some ⟨g, off, none⟩ ∧ ∀ (j : Nat) u, xs[j]? = some u → w1.cell? ⟨g, off + j, none⟩ = some u)
    (h1 : ∀ u ∈ xs, u.oneCell' = true) (hb : n * bytes ≤ 140737488355328) (hn : n ≤ 1000000000000000000) :
    ∃ v' w3, (Builtin.append_ #[t, t] ty #[.slice (some ⟨w1.heap.size, 0, none⟩) 0 0, .slice A n c]).run Tryz.prog (w1.alloc (.cells #[] e)) = .ok v' w3 ∧ w3.ownsRow w1.heap.size e sz v' n xs ∧ Below w1.heap.size w1 w3 ∧ ∃ A' c', v' = .slice A' n c' := by
  obtain ⟨j0, hj0, hy0, hy1, hy2⟩ := info_parts hinfo
  have hb1 : Below w1.heap.size w1 (w1.alloc (.cells #[] e)) := (Below.refl _ _).alloc (Nat.le_refl _) _
  have ho := World.ownsRow_lit (e := e) (size := sz) w1 #[] 0 (Nat.le_refl _) (by unfold maxLen; omega) (by simp)
  by_cases h0 : n = 0
  · subst h0
    have hx : xs = [] := List.eq_nil_of_length_eq_zero (by simpa using hl)
    subst hx
    exact ⟨_, _, run_append_zero (P := Tryz.prog) _ t ty e j0 ht hj0 (some ⟨w1.heap.size, 0, none⟩) 0 0 (Nat.le_refl _) A c, ho, hb1, _, _, rfl⟩
  · obtain ⟨g, off, rfl, hc⟩ := hsrc (by omega)
    have hnews : ∀ j u, xs[j]? = some u → (w1.alloc (.cells #[] e)).cell? ((⟨g, off, none⟩ : Addr).add j) = some u := fun j u hj => by
      rw [off_add]
      have := hc j u hj
      exact (cell_same (p := ⟨g, off + j, none⟩) (hb1.block g (cell_lt this))).trans this
    obtain ⟨v', w3, q1, q2, q3, q4, q5⟩ := run_append_own_at (P := Tryz.prog) (w1.alloc (.cells #[] e)) w1.heap.size t ty e j0 zr sz bytes ht hj0 hy0 hy1 hy2 hzr hsz (.slice (some ⟨w1.heap.size, 0, none⟩) 0 0) 0 [] ho ⟨g, off, none⟩ n c xs hl hnews h1 (by unfold maxLen; omega) (by rw [Nat.zero_add]; exact hb) (by simp)
    rw [Nat.zero_add, List.nil_append] at q2
    have hb3 : Below w1.heap.size w1 w3 := hb1.grown q3 (by simp) (fun k hk => by injection hk with hk; exact Nat.le_of_eq hk)
    obtain ⟨g', cap', e', _⟩ := own_pos q2 (by omega)
    exact ⟨v', w3, q1, q2, hb3, _, _, e'⟩
theorem string_info : (Tryz.prog.info? 9).map (fun i => (i.zero, i.size, i.bytes)) = some (some (.string ⟨#[]⟩), 1, 16) := by kernel_rfl
section
variable {U K : Nat → Prop} {w w' : World} {x : Nat} {fs : List Fr}
/-- named. -/
def nmdB (s : ByteArray) : Bool := decide (1 ≤ s.size) && decide (s.size ≤ 100)
theorem fr_get {zs : List Fv} {j : Nat} {f : Fr} (h : (zs.map (·.1))[j]? = some f) : ∃ z, zs[j]? = some z ∧ z.1 = f := by
  rw [List.getElem?_map] at h
  cases hz : zs[j]? with
  | none => rw [hz] at h; cases h
  | some z =>
    rw [hz] at h
    injection h with h
    exact ⟨z, rfl, h⟩
theorem get_fr {zs : List Fv} {j : Nat} {z : Fv} (h : zs[j]? = some z) : (zs.map (·.1))[j]? = some z.1 := by rw [List.getElem?_map, h]; rfl
end
/-- Bytes cut at line feeds. -/
def cutLf : List UInt8 → List (List UInt8)
  | [] => []
  | c :: t => if c = 10 then [] :: cutLf t else match cutLf t with
    | [] => [[c]]
    | a :: r => (c :: a) :: r
theorem cutLf_cut : ∀ {p : List UInt8} (t : List UInt8), (∀ c ∈ p, c ≠ 10) → cutLf (p ++ 10 :: t) = p :: cutLf t
  | [], t, _ => by simp [cutLf]
  | c :: p, t, h => by
    have ih := cutLf_cut (p := p) t (fun c hc => h c (List.mem_cons_of_mem _ hc))
    rw [List.cons_append]
    conv => lhs; unfold cutLf
    rw [if_neg (h c (List.mem_cons_self ..)), ih]
theorem cutLf_end : ∀ {p : List UInt8}, (∀ c ∈ p, c ≠ 10) → p ≠ [] → cutLf p = [p]
  | [], _, h => absurd rfl h
  | [c], h, _ => by
    unfold cutLf
    rw [if_neg (h c (List.mem_cons_self ..))]
    rfl
  | c :: d :: p, h, _ => by
    have ih := cutLf_end (p := d :: p) (fun c hc => h c (List.mem_cons_of_mem _ hc)) (by simp)
    unfold cutLf
    rw [if_neg (h c (List.mem_cons_self ..)), ih]
theorem cutLf_small : ∀ (l : List UInt8), (cutLf l).length ≤ l.length ∧ ∀ x ∈ cutLf l, x.length ≤ l.length
  | [] => ⟨Nat.le_refl _, fun x hx => (by cases hx)⟩
  | c :: t => by
    obtain ⟨h1, h2⟩ := cutLf_small t
    unfold cutLf
    split
    · refine ⟨by simpa using h1, fun x hx => ?_⟩
      rcases List.mem_cons.1 hx with rfl | hx
      · simp
      · exact Nat.le_succ_of_le (h2 x hx)
    · split
      · refine ⟨by simp, fun x hx => ?_⟩
        rw [List.mem_singleton.1 hx]
        simp
      · rename_i a r e
        rw [e] at h1 h2
        refine ⟨by simp at h1 ⊢; omega, fun x hx => ?_⟩
        rcases List.mem_cons.1 hx with rfl | hx
        · have := h2 a (List.mem_cons_self ..)
          simpa using this
        · exact Nat.le_succ_of_le (h2 x (List.mem_cons_of_mem _ hx))
/-- The lines of a text. -/
def lnsT (s : ByteArray) : List ByteArray := (cutLf s.data.toList).map fun l => ⟨l.toArray⟩
theorem ext_data (s : ByteArray) (a b : Nat) : (s.extract a b).data.toList = (s.data.toList.take b).drop a := by
  rw [ByteArray.data_extract, Array.toList_extract]
  simp [List.drop_take]
theorem lnsT_len (s : ByteArray) : (lnsT s).length ≤ s.size := by
  unfold lnsT
  rw [List.length_map]
  exact (cutLf_small s.data.toList).1
theorem lnsT_size (s : ByteArray) : ∀ x ∈ lnsT s, x.size ≤ s.size := by
  intro x hx
  obtain ⟨l, hl, rfl⟩ := List.mem_map.1 hx
  exact (cutLf_small s.data.toList).2 l hl
theorem mem_cut {s : ByteArray} {fr i : Nat} (hno : ∀ (j : Nat) (hj : j < s.size), fr ≤ j → j < i → s[j].toNat ≠ 10) : ∀ c ∈ (s.data.toList.take i).drop fr, c ≠ 10 := by
  intro c hc
  obtain ⟨k, hk⟩ := List.getElem?_of_mem hc
  rw [List.getElem?_drop, List.getElem?_take] at hk
  split at hk
  · rename_i hlt
    obtain ⟨h1, h2⟩ := List.getElem?_eq_some_iff.1 hk
    have h1' : fr + k < s.size := h1
    have := hno (fr + k) h1' (by omega) hlt
    intro e
    refine this ?_
    have h3 : s[fr + k] = c := h2
    rw [h3, e]; rfl
  · cases hk
theorem lnsT_cut {s : ByteArray} {fr i : Nat} (h : fr ≤ i) (hi : i < s.size) (h10 : s[i].toNat = 10) (hno : ∀ (j : Nat) (hj : j < s.size), fr ≤ j → j < i → s[j].toNat ≠ 10) :
    lnsT (s.extract fr s.size) = s.extract fr i :: lnsT (s.extract (i + 1) s.size) := by
  have hi' : i < s.data.toList.length := hi
  have e : (s.data.toList.take s.size).drop fr = (s.data.toList.take i).drop fr ++ 10 :: (s.data.toList.take s.size).drop (i + 1) := by
    rw [List.take_of_length_le (Nat.le_refl s.size)]
    have h2 : s.data.toList = s.data.toList.take i ++ 10 :: s.data.toList.drop (i + 1) := by
      have h3 : s.data.toList[i] = 10 := UInt8.toNat_inj.1 h10
      rw [← h3, List.getElem_cons_drop, List.take_append_drop]
    conv => lhs; rw [h2]
    rw [List.drop_append_of_le_length (by rw [List.length_take]; omega)]
  unfold lnsT
  rw [ext_data, ext_data, e, cutLf_cut _ (mem_cut hno), List.map_cons]
  congr 1
  exact (ba_of (ext_data s fr i).symm)
theorem lnsT_end {s : ByteArray} {fr : Nat} (hno : ∀ (j : Nat) (hj : j < s.size), fr ≤ j → s[j].toNat ≠ 10) : lnsT (s.extract fr s.size) = if fr < s.size then [s.extract fr s.size] else [] := by
  unfold lnsT
  rw [ext_data]
  split
  · rename_i hlt
    rw [cutLf_end (mem_cut (fun j hj h1 _ => hno j hj h1)) (by
      intro e
      have := congrArg List.length e
      rw [List.length_drop, List.length_take] at this
      have h2 : s.data.toList.length = s.size := rfl
      simp at this
      omega)]
    rw [List.map_cons, List.map_nil]
    congr 1
    exact ba_of (ext_data s fr s.size).symm
  · rename_i hge
    rw [List.drop_of_length_le (by rw [List.length_take]; omega)]
    rfl
theorem ext_all (s : ByteArray) : s.extract 0 s.size = s := ba_eq (by rw [ext_data, List.drop_zero, List.take_of_length_le (Nat.le_refl s.size)])
/-- Texts that the call itself has laid. -/
theorem own_strs {w : World} {b : Nat} {v : Value} {L : List ByteArray} (h : w.ownsRow b 9 1 v L.length (L.map Value.string)) (hs : ∀ x ∈ L, x.size ≤ 140737488351232) : SsAt (fun k => b ≤ k ∧ k < w.heap.size) w v L := by
  rcases h.2 with ⟨rfl, e⟩ | ⟨g, cap, cur, rfl, hb, hg, hn, hm, _⟩
  · exact ⟨none, 0, by rw [e], by omega, Nat.zero_le _, fun h => absurd h (by omega)⟩
  · refine ⟨_, cap, rfl, hn, hm, fun _ => ⟨g, 0, rfl, ⟨hb, (show Blk w g 9 cur from hg).lt⟩, fun i x hx => ⟨?_, hs x (List.mem_of_getElem? hx)⟩⟩⟩
    rw [Nat.zero_add, Nat.mul_one]
    exact own_cellAt h (by rw [List.getElem?_map, hx]; rfl)
set_option maxRecDepth 100000 in
set_option maxHeartbeats 1000000 in
/-- Lines. -/
theorem nLines (s : ByteArray) (hs : s.size ≤ 1000000) (w : World) :
    Calls Tryz.prog 75 #[.string s] w fun e w' => ∃ v, e = .returned v ∧ SsAt (fun k => w.heap.size ≤ k ∧ k < w'.heap.size) w' v (lnsT s) ∧ Below w.heap.size w w' := by
  obtain ⟨i0, hi0, hz0, hz1, hz2⟩ := info_parts string_info
  go_enter Tryz.func75, Tryz.ntmps75
  go_wp2
  go_loopw [3, 4, 5] (fun v3 v4 v5 wr => ∃ (fr i : Nat) (L : List ByteArray), fr ≤ i ∧ i ≤ s.size ∧ v4 = .int .i64 fr ∧ v5 = .int .i64 i ∧ L.length ≤ fr ∧ wr.ownsRow w.heap.size 9 1 v3 L.length (L.map Value.string) ∧ Below w.heap.size w wr ∧ lnsT s = L ++ lnsT (s.extract fr s.size) ∧ ∀ (j : Nat) (hj : j < s.size), fr ≤ j → j < i → s[j].toNat ≠ 10) (fun _ _ v5 _ => s.size - (intOf v5).toNat)
  case atStart => exact ⟨0, 0, [], Nat.le_refl _, Nat.zero_le _, rfl, rfl, Nat.le_refl _, World.ownsRow_nil _ _ _ _, Below.refl _ _, by rw [ext_all]; rfl, fun j hj h1 h2 => by omega⟩
  case round =>
    obtain ⟨fr, i, L, hfi, his, rfl, rfl, hL, hown, hb, he, hno⟩ := hrel
    have HE := Lib.hid he
    have HNo := Lib.hid hno
    clear he hno
    obtain ⟨A3, c3, rfl, _, _⟩ := own_form2 hown
    by_cases hlt : i < s.size
    · by_cases h3 : (s[i].toNat : Int) = 10
      · have hB : ((s[i].toNat : Int) == 10) = true := by simp [h3]
        have h10 : s[i].toNat = 10 := by omega
        have HC := Lib.hid (lnsT_cut hfi hlt h10 HNo.out)
        have HO := Lib.hid (hown.alloc (.cells #[.string (s.extract fr i)] 9))
        have hn2 := Lib.hid (Blk.new wr 9 #[.string (s.extract fr i)])
        clear h3 h10 hown
        go_wp2_with (at_builtin
                     refine wpList_append_own_at _ rfl (.tmp 16) (.tmp 21) _ rfl w.heap.size 9 i0 _ 1 16 Tryz.underlying36 hi0 hz0 hz1 hz2 rfl (by omega) (.slice A3 L.length c3) L.length _ rfl HO.out ⟨wr.heap.size, 0, none⟩ 1 1 [.string (s.extract fr i)] rfl rfl (cells_new hn2.out) (by intro u hu; rw [List.mem_singleton.1 hu]; rfl) (by unfold maxLen; omega) (by omega) (by have := hb.size; simp; omega) ?_
                     intro v1 w2 hown1 hg1 _ _
                     have hb2 : Below w.heap.size w w2 := (hb.alloc hb.size _).grown hg1 (by have := hb.size; simp; omega) (fun q hq => own_ge HO.out hq)
                     have HO2 := Lib.hid hown1
                     clear hown1 hg1)
        go_roundw
        case rel => exact ⟨i + 1, i + 1, L ++ [s.extract fr i], Nat.le_refl _, by omega, by go_num, by go_num, by rw [List.length_append]; simp; omega, by rw [List.length_append, List.map_append]; exact HO2.out, hb2, by rw [HE.out, HC.out, List.append_assoc]; rfl, fun j hj h1 h2 => by omega⟩
        case measure => simp [intOf]; omega
      · have hB : ((s[i].toNat : Int) == 10) = false := by simp [h3]
        have H3 := Lib.hid h3
        have HO := Lib.hid hown
        clear h3 hown
        go_wp2
        go_roundw
        case rel => exact ⟨fr, i + 1, L, by omega, by omega, rfl, by go_num, hL, HO.out, hb, HE.out, fun j hj h1 h2 => by
          by_cases e : j = i
          · subst e
            have := H3.out
            omega
          · exact HNo.out j hj h1 (by omega)⟩
        case measure => simp [intOf]; omega
    · have ei : i = s.size := by omega
      subst ei
      have HEnd := Lib.hid (lnsT_end (s := s) (fr := fr) (fun j hj h1 => HNo.out j hj h1 hj))
      have HSz := Lib.hid (lnsT_size s)
      by_cases hf : fr < s.size
      · have HO := Lib.hid (hown.alloc (.cells #[.string (s.extract fr s.size)] 9))
        have hn2 := Lib.hid (Blk.new wr 9 #[.string (s.extract fr s.size)])
        clear hown
        go_wp2_with (at_builtin
                     refine wpList_append_own_at _ rfl (.tmp 29) (.tmp 33) _ rfl w.heap.size 9 i0 _ 1 16 Tryz.underlying36 hi0 hz0 hz1 hz2 rfl (by omega) (.slice A3 L.length c3) L.length _ rfl HO.out ⟨wr.heap.size, 0, none⟩ 1 1 [.string (s.extract fr s.size)] rfl rfl (cells_new hn2.out) (by intro u hu; rw [List.mem_singleton.1 hu]; rfl) (by unfold maxLen; omega) (by omega) (by have := hb.size; simp; omega) ?_
                     intro v1 w2 hown1 hg1 _ _
                     have hb2 : Below w.heap.size w w2 := (hb.alloc hb.size _).grown hg1 (by have := hb.size; simp; omega) (fun q hq => own_ge HO.out hq)
                     have HO2 := Lib.hid hown1
                     clear hown1 hg1)
        go_ret
        have e : lnsT s = L ++ [s.extract fr s.size] := by rw [HE.out, HEnd.out, if_pos hf]
        refine ⟨_, rfl, ?_, hb2⟩
        rw [e]
        refine own_strs (by rw [List.length_append, List.map_append]; exact HO2.out) (fun x hx => ?_)
        rw [← e] at hx
        exact Nat.le_trans (HSz.out x hx) (by omega)
      · have HO := Lib.hid hown
        clear hown
        go_wp2
        go_ret
        have e : lnsT s = L := by rw [HE.out, HEnd.out, if_neg hf, List.append_nil]
        refine ⟨_, rfl, ?_, hb⟩
        rw [e]
        refine own_strs HO.out (fun x hx => ?_)
        rw [← e] at hx
        exact Nat.le_trans (HSz.out x hx) (by omega)
/-- A line that is not made. -/
def tLn (t : ByteArray) : Ln := ⟨t, false, 0, 0, []⟩
/-- The lines of a file. -/
def rdL (s : ByteArray) : List Ln := (lnsT s).map tLn
def rdB (s : ByteArray) : Bool := (lnsT s).all (fun x => decide (x.size ≤ 2000)) && decide ((lnsT s).length ≤ 20000)
section
variable {U K : Nat → Prop} {w w' : World} {x : Nat} {fs : List Fr}
theorem idle_no {f : Fr} (h : f.kind ≠ 3) : (!(f.is 3 && f.over)) = true := by
  have : f.is 3 = false := decide_eq_false h
  rw [this]; rfl
theorem idle_yes {f : Fr} (h : f.kind = 3) : (!(f.is 3 && f.over)) = !f.over := by
  have : f.is 3 = true := decide_eq_true h
  rw [this]; rfl
end
def filFr (n t : ByteArray) : Fr := ⟨1, n, rdL t, [], 0⟩
def macFr (n : ByteArray) (ls : List Ln) (ags : List ByteArray) : Fr := ⟨2, n, ls, ags, 0⟩
def waiFr (ls : List Ln) : Fr := ⟨3, ⟨#[]⟩, ls, [], 0⟩
def lsOk (ls : List Ln) : Bool := lnsB ls && decide (ls.length ≤ 20000)
def putE (ok : Bool) (fs : List Fr) : Int := if ok then psE fs else 1
def putF (ok : Bool) (fs : List Fr) (f : Fr) : List Fr := if ok then psF fs f else fs
theorem filFr_ok {n t : ByteArray} (hn : nmdB n = true) (ht : rdB t = true) : (filFr n t).Ok := by
  unfold nmdB at hn
  unfold rdB at ht
  rw [Bool.and_eq_true, decide_eq_true_eq, decide_eq_true_eq] at hn
  rw [Bool.and_eq_true, decide_eq_true_eq] at ht
  exact ⟨.inl rfl, hn.2, by show (rdL t).length ≤ _; unfold rdL; rw [List.length_map]; exact ht.2, by show 0 * 16 ≤ _; omega, Nat.zero_le _⟩
section
variable {U K : Nat → Prop} {w w' : World} {x : Nat} {fs : List Fr}
end
/-- append, of texts onto a new empty row. -/
theorem runSs {K : Nat → Prop} (w1 : World) (ty : TypeId) (A : Option Addr) (n c : Nat) (l : List ByteArray) (h : SsAt K w1 (.slice A n c) l) (hz : l.length * 16 ≤ 140737488355328) :
    ∃ A' c' w3, (Builtin.append_ #[36, 36] ty #[.slice (some ⟨w1.heap.size, 0, none⟩) 0 0, .slice A n c]).run Tryz.prog (w1.alloc (.cells #[] 9)) = .ok (.slice A' n c') w3 ∧ SsAt (fun k => w1.heap.size ≤ k ∧ k < w3.heap.size) w3 (.slice A' n c') l ∧ Below w1.heap.size w1 w3 ∧ n = l.length := by
  obtain ⟨A0, c0, e, h1, h2, h3⟩ := h
  injection e with e1 e2 e3
  subst e1 e2 e3
  have hs : ∀ x ∈ l, x.size ≤ 140737488351232 := fun x hx => by
    obtain ⟨i, hi⟩ := List.getElem?_of_mem hx
    have := (List.getElem?_eq_some_iff.1 hi).1
    obtain ⟨g, off, _, _, hr⟩ := h3 (by omega)
    exact (hr i x hi).2
  obtain ⟨v', w3, q1, q2, q3, A', c', rfl⟩ := runCopy (t := 36) (bytes := 16) Tryz.underlying36 string_info rfl (by omega) w1 ty A l.length c (l.map Value.string) (by rw [List.length_map, Nat.mul_one])
    (fun hp => by
      obtain ⟨g, off, rfl, _, hr⟩ := h3 hp
      refine ⟨g, off, rfl, fun j u hu => ?_⟩
      rw [List.getElem?_map] at hu
      cases hl : l[j]? with
      | none => rw [hl] at hu; cases hu
      | some y =>
        rw [hl] at hu
        injection hu with hu
        have := (hr j y hl).1
        rw [Nat.mul_one] at this
        rw [← hu]; exact this) (by intro u hu; obtain ⟨y, _, rfl⟩ := List.mem_map.1 hu; rfl) hz (by omega)
  exact ⟨A', c', w3, q1, own_strs q2 hs, q3, rfl⟩
section
variable {U K : Nat → Prop} {w w' : World} {x : Nat} {fs : List Fr}
end
/-- A line as it is answered: its boxes lie in new blocks. -/
def LnOut (w w' : World) (r : Ending) (l : Ln) (er : Int) : Prop :=
  ∃ v, r = .returned (.tuple #[.agg #[.string l.text, .bool l.made, .int .i64 l.up, .int .i64 l.down, v], .int .i64 er]) ∧ BxsAt (fun k => w.heap.size ≤ k ∧ k < w'.heap.size) w' v l.boxes
theorem live_at {fs : List Fr} {q : Nat} {f : Fr} (hn : liveN fs = q + 1) (hf : fs[q]? = some f) {l : Ln} (hl : f.lines[f.pos]? = some l) : nxE fs = 0 ∧ nxL fs = l := by
  unfold nxE nxL
  rw [hn, if_neg (by omega), if_neg (by omega), Nat.add_sub_cancel, frI_at hf, hl]
  exact ⟨rfl, rfl⟩
theorem live_no {fs : List Fr} (hn : liveN fs = 0) : nxE fs = 3 ∧ nxL fs = zLn := by
  unfold nxE nxL
  rw [hn]
  exact ⟨rfl, rfl⟩
section
variable {U K : Nat → Prop} {w w' : World} {x : Nat} {fs : List Fr}
theorem res_set {w : World} {g : Nat} {t : TypeId} {a b c d e : Value} (hb : Blk w g t #[a, b, c, d, e]) (a' b' c' d' e' : Value) :
    Turn (· = g) w (((((w.setCell ⟨g, 0, none⟩ a').setCell ⟨g, 1, none⟩ b').setCell ⟨g, 2, none⟩ c').setCell ⟨g, 3, none⟩ d').setCell ⟨g, 4, none⟩ e') ∧ Blk (((((w.setCell ⟨g, 0, none⟩ a').setCell ⟨g, 1, none⟩ b').setCell ⟨g, 2, none⟩ c').setCell ⟨g, 3, none⟩ d').setCell ⟨g, 4, none⟩ e') g t #[a', b', c', d', e'] :=
  ⟨((((turn_set w g 0 a').trans (turn_set _ g 1 b') (fun _ _ h => h)).trans (turn_set _ g 2 c') (fun _ _ h => h)).trans (turn_set _ g 3 d') (fun _ _ h => h)).trans (turn_set _ g 4 e') (fun _ _ h => h), blk_set (blk_set (blk_set (blk_set (blk_set hb a') b') c') d') e'⟩
end
/-- append, as one step of a region that draws its order. -/
theorem step_run {P : Program} {ops : Array Oper} {o : Oper} {a : Act} {w : World} {K : Act → World → Prop} {Q : Exit → Act → World → Prop} {E : Prop}
    (hg : o.guard = none) (s x : Operand) (t : TypeId) (hop : o.op = Op.call { callee := Callee.builtin Builtin.append, args := #[s, x], argTypes := #[t, t] }) (vs vx : Value) (hs : a.eval s = vs) (hx : a.eval x = vx) (v' : Value) (w' : World)
    (hrun : (Builtin.append_ #[t, t] o.type #[vs, vx]).run P w = .ok v' w') (hK : K (a.put o.dst v') w') : if Region.wanted o (yielded ops a.tmps) = true then Oper.wp P o a w K Q else E := by
  have hw : Region.wanted o (yielded ops a.tmps) = true := by simp [Region.wanted, hg]
  rw [if_pos hw]
  unfold Oper.wp
  simp [execOp, hop, resolve, invoke, builtin, hs, hx, hrun, Result.andThen]
  exact hK
section
variable {U K : Nat → Prop} {w w' : World} {x : Nat} {fs : List Fr}
theorem map_modify_fst {zs : List Fv} {k : Nat} {u : Fv → Fv} {t : Fr → Fr} (h : ∀ z, (u z).1 = t z.1) : (zs.modify k u).map (fun z : Fv => z.1) = (zs.map (fun z : Fv => z.1)).modify k t := by
  apply List.ext_getElem?
  intro i
  rw [List.getElem?_map, List.getElem?_modify, List.getElem?_modify, List.getElem?_map]
  cases zs[i]? with
  | none => rfl
  | some z =>
    by_cases e : k = i
    · simp [e, h]
    · simp [e]
end
section
variable {U K : Nat → Prop} {w w' : World} {x : Nat} {fs : List Fr}
theorem low_of {a : Nat} {f : Fr} (ha : fs[a]? = some f) (hf : f.is 2 = true) (hall : ∀ (j : Nat) f, j < a → fs[j]? = some f → f.is 2 = false) : lowN fs = a := by
  obtain ⟨h1, h2⟩ := List.getElem?_eq_some_iff.1 ha
  unfold lowN
  rw [List.findIdx_eq h1]
  refine ⟨by rw [h2]; exact hf, fun j hj => hall j _ hj (List.getElem?_eq_getElem (by omega))⟩
/-- What Instead answers and leaves. -/
def inE (ok : Bool) (fs : List Fr) : Int := if ok then isE fs else 1
def inF (ok : Bool) (fs : List Fr) (f : Fr) : List Fr := if ok then isF fs f else fs
end
/-- append, as one step of a region that draws its order: that it is one is asked first. -/
theorem step_run2 {P : Program} {ops : Array Oper} {o : Oper} {a : Act} {w : World} {K : Act → World → Prop} {Q : Exit → Act → World → Prop} {E : Prop}
    (hg : o.guard = none) (s x : Operand) (t : TypeId) (h : o.op = Op.call { callee := Callee.builtin Builtin.append, args := #[s, x], argTypes := #[t, t] } ∧ ∃ v' w', (Builtin.append_ #[t, t] o.type #[a.eval s, a.eval x]).run P w = .ok v' w' ∧ K (a.put o.dst v') w') :
    if Region.wanted o (yielded ops a.tmps) = true then Oper.wp P o a w K Q else E := by
  obtain ⟨hop, v', w', hrun, hK⟩ := h
  exact step_run hg s x t hop _ _ rfl rfl v' w' hrun hK
section
variable {U K : Nat → Prop} {w w' : World} {x : Nat} {fs : List Fr}
theorem SsAt.drop {A : Addr} {g off c k : Nat} {l : List ByteArray} (hA : A = ⟨g, off, none⟩) (h : SsAt K w (.slice (some A) l.length c) l) (hk : k ≤ l.length) : SsAt K w (.slice (some (if c = k then ⟨g, off, none⟩ else ⟨g, off + k, none⟩)) (l.length - k) (c - k)) (l.drop k) := by
  subst hA
  obtain ⟨A0, c0, e, h1, h2, h3⟩ := h
  injection e with e1 e2 e3
  subst e1 e3
  refine ⟨_, _, by rw [List.length_drop], by rw [List.length_drop]; omega, by omega, fun h0 => ?_⟩
  rw [List.length_drop] at h0
  obtain ⟨g', off', e4, hK, hr⟩ := h3 (by omega)
  injection e4 with e4
  injection e4 with e4 e5
  subst e4 e5
  rw [if_neg (by omega)]
  refine ⟨g, off + k, rfl, hK, fun i x hx => ?_⟩
  rw [List.getElem?_drop] at hx
  have := hr (k + i) x hx
  rwa [show off + (k + i) * 1 = off + k + i * 1 by omega] at this
end
section
variable {U K : Nat → Prop} {w w' : World} {x : Nat} {fs : List Fr}
/-- append, as one step of a region that draws its order: that it is one is asked first. -/
theorem step_run3 {P : Program} {ops : Array Oper} {o : Oper} {a : Act} {w : World} {K : Act → World → Prop} {Q : Exit → Act → World → Prop} {E : Prop}
    (hg : o.guard = none) (s x : Operand) (t : TypeId) (h : o.op = Op.call { callee := Callee.builtin Builtin.append, args := #[s, x], argTypes := #[t, t] } ∧ ∃ v' w', (Builtin.append_ #[t, t] o.type #[a.eval s, a.eval x]).run P w = .ok v' w' ∧ K (a.put o.dst v') w') :
    if Region.wanted o (yielded ops a.tmps) = true then Oper.wp P o a w K Q else E := by
  obtain ⟨hop, v', w', hrun, hK⟩ := h
  exact step_run hg s x t hop _ _ rfl rfl v' w' hrun hK
theorem below_da (w : World) (o : Obj) : Below w.heap.size w (w.drew.alloc o) := ((Below.refl w.heap.size w).drew).alloc (Nat.le_refl w.heap.size) o
end
end Go.Proofs.YtpgkhhchpojlaaaGreatDoor
