/- Walks of a store of the call's own: what the statement on parts that are appended asks. -/
import Derived.Test.YtbedddgfijpbcaaQy
import Derived.Test.YtbedddgfijpbcaaQz
import Derived.Test.YtbedddgfijpbcaaQt
namespace Go.Proofs.Ytbedddgfijpbcaa
open Go.RowKit Go.Maps Go.WideMaps

section
variable {b : Nat} {w0 w : World} {g bm : Nat} {L : List Ent} {E : Nat → En}
theorem sAdd (s : ByteArray) (K : Nat → Prop) (v : Value) (ls : List Ln) (hll : ls.length ≤ 10000000000000) (hs : s.size ≤ maxLen) (h : St b w0 w g bm L E) (hv : LnsAt K w v ls) (hK : ∀ k, K k → k < w.heap.size) :
    Calls Try.prog 16 #[.pointer (some ⟨g, 0, none⟩), .string s, v] w fun e w' => e = .returned (.int .i64 (adE L E s ls)) ∧ (adE L E s ls ≠ 0 → St b w0 w' g bm L E) ∧ (adE L E s ls = 0 → PutAt b w0 w' g bm L E s (.mac (adL L E s ls))) := by
  have h' := h
  obtain ⟨U, F, R, h1, h2, h3, h4, h5⟩ := h
  exact (cAdd s K v ls hll hs h1 hv hK).mono fun _ w' ⟨g1, g2, g3⟩ => ⟨g1, fun h => h'.below (g2 h), fun h => (g3 h).st h1 h2 h3 h4 h5⟩
theorem sLines (s : ByteArray) (hs : s.size ≤ maxLen) (h : St b w0 w g bm L E) :
    Calls Try.prog 17 #[.pointer (some ⟨g, 0, none⟩), .string s] w fun x w' => ∃ A n c, x = .returned (.tuple #[.slice A n c, .int .i64 (fdE L s)]) ∧ LnsAt (fun k => w.heap.size ≤ k ∧ k < w'.heap.size) w' (.slice A n c) (lnOf L E s) ∧ St b w0 w' g bm L E := by
  have h' := h
  obtain ⟨U, F, R, h1, h2, h3, h4, h5⟩ := h
  exact (cLines s hs h1).mono fun _ w' ⟨A, n, c, q1, q2, q3⟩ => ⟨A, n, c, q1, q2, h'.below q3⟩
/-- Where an entry is put onto a name that is there. -/
theorem PutAt.old {w' : World} {s : ByteArray} {en : En} (h : PutAt b w0 w' g bm L E s en) (hh : hasB L s = true) : St b w0 w' g bm L (upd E (getR L s) en) := by
  obtain ⟨e', h1, h2, _⟩ := h
  rw [h2 hh, put_same hh] at h1
  exact h1
end
abbrev nB : ByteArray := ⟨#[98]⟩
abbrev nC : ByteArray := ⟨#[99]⟩
theorem nB_ok : nameB nB = true := by decide
theorem nC_ok : nameB nC = true := by decide
/-- Names a and b lead to two texts. -/
def ASt (b : Nat) (w0 w : World) (g bm : Nat) (x y : ByteArray) : Prop :=
  ∃ L E, St b w0 w g bm L E ∧ hasB L nA = true ∧ hasB L nB = true ∧ getR L nA ≠ getR L nB ∧ L.length ≤ 2 ∧ hasB L nC = false ∧ E (getR L nA) = .str x ∧ E (getR L nB) = .str y
/-- Name c leads to lines. -/
def CSt (b : Nat) (w0 w : World) (g bm : Nat) (ls : List Ln) : Prop :=
  ∃ L E, St b w0 w g bm L E ∧ hasB L nC = true ∧ E (getR L nC) = .mac ls
section
variable {b : Nat} {w0 w : World} {g bm : Nat}
theorem ASt.below {w' : World} {x y : ByteArray} (h : ASt b w0 w g bm x y) (hb : Below w.heap.size w w') : ASt b w0 w' g bm x y := by
  obtain ⟨L, E, h1, h2⟩ := h
  exact ⟨L, E, h1.below hb, h2⟩
theorem ASt.out {x y : ByteArray} (h : ASt b w0 w g bm x y) : Below b w0 w := by
  obtain ⟨L, E, h1, _⟩ := h
  exact h1.out
theorem CSt.out {ls : List Ln} (h : CSt b w0 w g bm ls) : Below b w0 w := by
  obtain ⟨L, E, h1, _⟩ := h
  exact h1.out
theorem aDef1 (t : ByteArray) (htz : t.size ≤ maxLen) (ht : textB t = true) (h : St b w0 w g bm [] E0) :
    Calls Try.prog 11 #[.pointer (some ⟨g, 0, none⟩), .string nA, .string t] w fun x w' => x = .returned (.int .i64 0) ∧ ∃ e, St b w0 w' g bm [(nA, e)] (upd E0 e (.str t)) := by
  have := sDefine nA t nA_size htz h
  rw [df_first _ _ nA_ok ht] at this
  exact this.mono fun _ _ ⟨a, _, c⟩ => ⟨a, put_first (c rfl)⟩
theorem aDef2 (t y : ByteArray) (hyz : y.size ≤ maxLen) (hy : textB y = true) {e : Nat} (h : St b w0 w g bm [(nA, e)] (upd E0 e (.str t))) :
    Calls Try.prog 11 #[.pointer (some ⟨g, 0, none⟩), .string nB, .string y] w fun x w' => x = .returned (.int .i64 0) ∧ ASt b w0 w' g bm t y := by
  have hb : hasB [(nA, e)] nB = false := by
    have : nlt nA nB = true := by decide
    rw [has_lt this]; rfl
  have hc : hasB [(nA, e)] nC = false := by
    have : nlt nA nC = true := by decide
    rw [has_lt this]; rfl
  have he : dfE [(nA, e)] nB y = 0 := by
    unfold dfE
    rw [if_pos (tx_ok _ hy nB_ok)]
    unfold putE fullB
    rw [hb]; rfl
  have := sDefine nB y (by decide) hyz h
  rw [he] at this
  refine this.mono fun x w' ⟨a, _, c⟩ => ⟨a, ?_⟩
  obtain ⟨e', h1, _, h3⟩ := c rfl
  have hne : e ≠ e' := h3 hb (nA, e) (List.mem_cons_self ..)
  have hs := h.srt
  refine ⟨_, _, h1, by rw [has_put hs, has_one]; simp, by rw [has_put hs]; simp, ?_, ?_, ?_, ?_, ?_⟩
  · rw [get_put_at hs, get_put_ne hs (by decide), get_one]; exact hne
  · rw [len_put, hb]; simp
  · rw [has_put hs, hc]; rfl
  · rw [get_put_ne hs (by decide), get_one, upd_ne hne, upd_at]
  · rw [get_put_at hs, upd_at]
theorem aApp (t x y : ByteArray) (htz : t.size ≤ maxLen) (ht : textB t = true) (hxt : textB (x ++ t) = true) (h : ASt b w0 w g bm x y) :
    Calls Try.prog 12 #[.pointer (some ⟨g, 0, none⟩), .string nA, .string t] w fun e w' => e = .returned (.int .i64 0) ∧ ASt b w0 w' g bm (x ++ t) y := by
  obtain ⟨L, E, h1, h2, h3, h4, h5, h6, h7, h8⟩ := h
  have e2 : apT L E nA t = x ++ t := by unfold apT; rw [h2, h7]; rfl
  have he : apE L E nA t = 0 := by
    unfold apE
    rw [if_pos (tx_ok _ ht nA_ok), e2, if_neg (by have := text_size hxt; omega)]
    unfold putE fullB
    rw [h2]; rfl
  have := sAppend nA t nA_size htz h1
  rw [he, e2] at this
  refine this.mono fun _ w' ⟨a, _, c⟩ => ⟨a, L, _, (c rfl).old h2, h2, h3, h4, h5, h6, upd_at _ _ _, ?_⟩
  rw [upd_ne (fun e => h4 e.symm)]
  exact h8
theorem aTxtA (x y : ByteArray) (h : ASt b w0 w g bm x y) :
    Calls Try.prog 13 #[.pointer (some ⟨g, 0, none⟩), .string nA] w fun e w' => e = .returned (.tuple #[.string x, .int .i64 0]) ∧ w = w' := by
  obtain ⟨L, E, h1, h2, h3, h4, h5, h6, h7, h8⟩ := h
  have := sTxt nA nA_size h1
  rw [show txV L E nA = .tuple #[.string x, .int .i64 0] by unfold txV; rw [h2, h7]; rfl] at this
  exact this
theorem aTxtB (x y : ByteArray) (h : ASt b w0 w g bm x y) :
    Calls Try.prog 13 #[.pointer (some ⟨g, 0, none⟩), .string nB] w fun e w' => e = .returned (.tuple #[.string y, .int .i64 0]) ∧ w = w' := by
  obtain ⟨L, E, h1, h2, h3, h4, h5, h6, h7, h8⟩ := h
  have := sTxt nB (by decide) h1
  rw [show txV L E nB = .tuple #[.string y, .int .i64 0] by unfold txV; rw [h3, h8]; rfl] at this
  exact this
theorem ok_lns {ls : List Ln} (h : lnsB ls = true) {s : ByteArray} (hn : nameB s = true) : chk (lnsB ls) s = 0 := by
  unfold chk
  rw [h, hn]; rfl
theorem aMac (x y : ByteArray) (K : Nat → Prop) (v : Value) (ls : List Ln) (hl : lnsB ls = true) (hz : ls.length ≤ 300) (h : ASt b w0 w g bm x y) (hv : LnsAt K w v ls) (hK : ∀ k, K k → k < w.heap.size) :
    Calls Try.prog 15 #[.pointer (some ⟨g, 0, none⟩), .string nC, v] w fun e w' => e = .returned (.int .i64 0) ∧ CSt b w0 w' g bm ls := by
  obtain ⟨L, E, h1, h2, h3, h4, h5, h6, h7, h8⟩ := h
  have he : mcE L nC ls = 0 := by
    unfold mcE
    rw [if_pos (ok_lns hl nC_ok), if_neg (by omega)]
    unfold putE fullB
    rw [decide_eq_false (by omega)]; simp
  have := sMacro nC K v ls (by decide) h1 hv hK
  rw [he] at this
  refine this.mono fun _ w' ⟨a, _, c⟩ => ⟨a, ?_⟩
  obtain ⟨e', q1, _, _⟩ := c rfl
  exact ⟨_, _, q1, by rw [has_put h1.srt]; simp, by rw [get_put_at h1.srt, upd_at]⟩
theorem aAdd (l1 : List Ln) (K : Nat → Prop) (v : Value) (ls : List Ln) (hl : lnsB ls = true) (hz : l1.length + ls.length ≤ 300) (h : CSt b w0 w g bm l1) (hv : LnsAt K w v ls) (hK : ∀ k, K k → k < w.heap.size) :
    Calls Try.prog 16 #[.pointer (some ⟨g, 0, none⟩), .string nC, v] w fun e w' => e = .returned (.int .i64 0) ∧ CSt b w0 w' g bm (l1 ++ ls) := by
  obtain ⟨L, E, h1, h2, h3⟩ := h
  have e2 : adL L E nC ls = l1 ++ ls := by unfold adL; rw [h2, h3]; rfl
  have he : adE L E nC ls = 0 := by
    unfold adE
    rw [if_pos (ok_lns hl nC_ok), e2, if_neg (by rw [List.length_append]; omega)]
    unfold putE fullB
    rw [h2]; rfl
  have := sAdd nC K v ls (by omega) (by decide) h1 hv hK
  rw [he, e2] at this
  exact this.mono fun _ w' ⟨a, _, c⟩ => ⟨a, L, _, (c rfl).old h2, h2, upd_at _ _ _⟩
theorem aLines (ls : List Ln) (h : CSt b w0 w g bm ls) :
    Calls Try.prog 17 #[.pointer (some ⟨g, 0, none⟩), .string nC] w fun x w' => ∃ A n c, x = .returned (.tuple #[.slice A n c, .int .i64 0]) ∧ LnsAt (fun k => w.heap.size ≤ k ∧ k < w'.heap.size) w' (.slice A n c) ls ∧ CSt b w0 w' g bm ls := by
  obtain ⟨L, E, h1, h2, h3⟩ := h
  have := sLines nC (by decide) h1
  rw [show fdE L nC = 0 by unfold fdE; rw [h2]; rfl, show lnOf L E nC = ls by unfold lnOf; rw [h2, h3]; rfl] at this
  exact this.mono fun _ w' ⟨A, n, c, q1, q2, q3⟩ => ⟨A, n, c, q1, q2, L, E, q3, h2, h3⟩
end
/-! ### texts one behind the other -/
def catL (l : List ByteArray) : ByteArray := l.foldl (fun a t => a ++ t) ⟨#[]⟩
theorem catL_snoc (l : List ByteArray) (t : ByteArray) : catL (l ++ [t]) = catL l ++ t := by unfold catL; rw [List.foldl_append]; rfl
theorem catL_take {l : List ByteArray} {i : Nat} {t : ByteArray} (h : l[i]? = some t) : catL (l.take (i + 1)) = catL (l.take i) ++ t := by
  rw [List.take_add_one, h]
  exact catL_snoc _ _
theorem text_right {x t : ByteArray} (h : textB (x ++ t) = true) : textB t = true := by
  unfold textB at h ⊢
  rw [noLf_all] at h ⊢
  simp only [Bool.and_eq_true, decide_eq_true_eq] at h ⊢
  refine ⟨?_, ?_⟩
  · have : (x ++ t).size = x.size + t.size := by rw [size_len, app_data, List.length_append]; rfl
    omega
  · have h2 := h.2
    unfold allB at h2 ⊢
    rw [app_data, List.all_append, Bool.and_eq_true] at h2
    exact h2.2
theorem LnsAt.take {K : Nat → Prop} {w : World} {A : Option Addr} {n c : Nat} {ls : List Ln} (h : LnsAt K w (.slice A n c) ls) (k : Nat) (hk : k ≤ ls.length) : LnsAt K w (.slice A k c) (ls.take k) := by
  obtain ⟨A', c', e, h1, h2, h3⟩ := h
  injection e with e1 e2 e3
  subst e1 e2 e3
  have hl : (ls.take k).length = k := by rw [List.length_take]; omega
  refine ⟨A, c, by rw [hl], by omega, h2, fun h0 => ?_⟩
  obtain ⟨g, off, e, hK, hr⟩ := h3 (by omega)
  refine ⟨g, off, e, hK, fun i l hi => ?_⟩
  rw [List.getElem?_take] at hi
  split at hi
  · exact hr i l hi
  · cases hi
theorem LnsAt.drop {K : Nat → Prop} {w : World} {A A' : Option Addr} {n c : Nat} {ls : List Ln} (h : LnsAt K w (.slice A n c) ls) (k : Nat) (hk : k ≤ ls.length) (hA : c ≠ k → A' = A.map fun x => x.add (k * 5)) : LnsAt K w (.slice A' (n - k) (c - k)) (ls.drop k) := by
  obtain ⟨A0, c', e, h1, h2, h3⟩ := h
  injection e with e1 e2 e3
  subst e1 e2 e3
  have hl : (ls.drop k).length = ls.length - k := List.length_drop
  refine ⟨A', c - k, by rw [hl], by omega, by omega, fun h0 => ?_⟩
  obtain ⟨g, off, e, hK, hr⟩ := h3 (by omega)
  refine ⟨g, off + k * 5, by rw [hA (by omega), e, Option.map_some, Addr.add_lit], hK, fun i l hi => ?_⟩
  rw [List.getElem?_drop] at hi
  have := hr (k + i) l hi
  rwa [show off + (k + i) * 5 = off + k * 5 + i * 5 by omega] at this
theorem lnsB_take {ls : List Ln} (h : lnsB ls = true) (k : Nat) : lnsB (ls.take k) = true := by
  unfold lnsB at h ⊢
  rw [List.all_eq_true] at h ⊢
  exact fun l hl => h l (List.mem_of_mem_take hl)
theorem lnsB_drop {ls : List Ln} (h : lnsB ls = true) (k : Nat) : lnsB (ls.drop k) = true := by
  unfold lnsB at h ⊢
  rw [List.all_eq_true] at h ⊢
  exact fun l hl => h l (List.mem_of_mem_drop hl)
end Go.Proofs.Ytbedddgfijpbcaa
