/- Walks of a store of the call's own: what the statement on a full store asks. -/
import Derived.Test.YtbedddgfijpbcaaQr
import Derived.Test.YtbedddgfijpbcaaQs
import Derived.Laws.BytesArg
namespace Go.Proofs.Ytbedddgfijpbcaa
open Go.RowKit Go.Maps Go.WideMaps

section
variable {b : Nat} {w0 w : World} {g bm : Nat} {L : List Ent} {E : Nat → En}
theorem St.srt (h : St b w0 w g bm L E) : Srt L := by
  obtain ⟨U, F, R, h1, _⟩ := h
  exact h1.srt
theorem St.len (h : St b w0 w g bm L E) : L.length ≤ 500 := by
  obtain ⟨U, F, R, h1, _⟩ := h
  exact h1.len
theorem St.turn_ {U F : Nat → Prop} {R : Nat → Option Nat} {w' : World} {L' : List Ent} {E' : Nat → En} (h : StAt U F R w' g bm L' E') (hT : Turn U w w') (hU : ∀ i, U i → b ≤ i) (hF : ∀ i, F i → b ≤ i) (hB : Below b w0 w) (hb : b ≤ w.heap.size) : St b w0 w' g bm L' E' :=
  ⟨U, F, R, h, hU, hF, Turn.below hB hT hb hU, Nat.le_trans hb hT.size⟩
theorem sMacro (s : ByteArray) (K : Nat → Prop) (v : Value) (ls : List Ln) (hs : s.size ≤ maxLen) (h : St b w0 w g bm L E) (hv : LnsAt K w v ls) (hK : ∀ k, K k → k < w.heap.size) :
    Calls Try.prog 15 #[.pointer (some ⟨g, 0, none⟩), .string s, v] w fun e w' => e = .returned (.int .i64 (mcE L s ls)) ∧ (mcE L s ls ≠ 0 → St b w0 w' g bm L E) ∧ (mcE L s ls = 0 → PutAt b w0 w' g bm L E s (.mac ls)) := by
  have h' := h
  obtain ⟨U, F, R, h1, h2, h3, h4, h5⟩ := h
  exact (cMacro s K v ls hs h1 hv hK).mono fun _ w' ⟨g1, g2, g3⟩ => ⟨g1, fun h => h'.below (g2 h), fun h => (g3 h).st h1 h2 h3 h4 h5⟩
theorem sRename (s t : ByteArray) (hs : s.size ≤ maxLen) (ht : t.size ≤ maxLen) (h : St b w0 w g bm L E) :
    Calls Try.prog 28 #[.pointer (some ⟨g, 0, none⟩), .string s, .string t] w fun e w' => e = .returned (.int .i64 (rnE L s t)) ∧ (rnE L s t ≠ 0 → w = w') ∧ (rnE L s t = 0 → St b w0 w' g bm (putR (delR L s) t (getR L s)) E) := by
  obtain ⟨U, F, R, h1, h2, h3, h4, h5⟩ := h
  exact (cRename s t hs ht h1).mono fun _ w' ⟨g1, g2, g3⟩ => ⟨g1, g2, fun h => St.turn_ (g3 h).1 (g3 h).2 h2 h3 h4 h5⟩
theorem sAlias (t s : ByteArray) (ht : t.size ≤ maxLen) (hs : s.size ≤ maxLen) (h : St b w0 w g bm L E) :
    Calls Try.prog 20 #[.pointer (some ⟨g, 0, none⟩), .string t, .string s] w fun e w' => e = .returned (.int .i64 (alE L t s)) ∧ (alE L t s ≠ 0 → w = w') ∧ (alE L t s = 0 → St b w0 w' g bm (putR L t (getR L s)) E) := by
  obtain ⟨U, F, R, h1, h2, h3, h4, h5⟩ := h
  exact (cAlias t s ht hs h1).mono fun _ w' ⟨g1, g2, g3⟩ => ⟨g1, g2, fun h => St.turn_ (g3 h).1 (g3 h).2 h2 h3 h4 h5⟩
end
/-! ### the names -/
def b2 (x y : Int) : ByteArray := strOfNums [x, y]
theorem kB2 (w : World) (x y : Int) : (convert 56 9 (.slice (some ⟨w.heap.size, 0, none⟩) 2 2)).run Try.prog (w.alloc (.cells #[.int .u8 x, .int .u8 y] 5)) = .ok (.string (b2 x y)) (w.alloc (.cells #[.int .u8 x, .int .u8 y] 5)) :=
  run_convert_bytes_arg _ 56 5 Try.underlying56 Try.underlying5 w.heap.size 0 2 2 [x, y] rfl (fun i hi => by
    have hz := Blk.new w 5 #[.int .u8 x, .int .u8 y]
    match i, hi with
    | 0, _ => exact hz.cell 0
    | 1, _ => exact hz.cell 1) 9 Try.underlying9
theorem b2_of (x y : Int) (m n : Nat) (h : x = m) (h' : y = n) : (b2 x y).data.toList = [m.toUInt8, n.toUInt8] := by
  subst h h'
  rfl
def nmG (k : Nat) : ByteArray := ⟨#[110]⟩ ++ b2 (97 + (k : Int) / 26) (97 + (k : Int) % 26)
theorem nmG_data (k : Nat) : (nmG k).data.toList = [110, (97 + k / 26).toUInt8, (97 + k % 26).toUInt8] := by
  unfold nmG
  rw [app_data, b2_of _ _ (97 + k / 26) (97 + k % 26) (by omega) (by omega)]
  rfl
theorem u8_inj {a b : Nat} (ha : a < 256) (hb : b < 256) (h : a.toUInt8 = b.toUInt8) : a = b := by
  have := congrArg UInt8.toNat h
  simp at this
  omega
theorem nmG_inj {j k : Nat} (hj : j < 500) (hk : k < 500) (h : nmG j = nmG k) : j = k := by
  have h1 := congrArg (fun s => s.data.toList) h
  simp only [nmG_data, List.cons.injEq, and_true, true_and] at h1
  have q1 := u8_inj (by omega) (by omega) h1.1
  have q2 := u8_inj (by omega) (by omega) h1.2
  omega
theorem nmG_size (k : Nat) : (nmG k).size = 3 := by rw [size_len, nmG_data]; rfl
theorem nmG_ok {k : Nat} (h : k < 500) : nameB (nmG k) = true := by
  unfold nameB
  rw [nmG_size]
  have h1 : (97 + k / 26).toUInt8.toNat = 97 + k / 26 := by simp; omega
  have h2 : (97 + k % 26).toUInt8.toNat = 97 + k % 26 := by simp; omega
  unfold allB
  rw [nmG_data]
  simp only [List.all_cons, List.all_nil, h1, h2, nmB]
  simp
  omega
abbrev more : ByteArray := ⟨#[109, 111, 114, 101]⟩
theorem more_ok : nameB more = true := by decide
theorem more_ne (k : Nat) : more ≠ nmG k := fun e => by
  have := congrArg ByteArray.size e
  rw [nmG_size] at this
  exact absurd this (by decide)
abbrev oneMore : ByteArray := ⟨#[111, 110, 101, 32, 109, 111, 114, 101]⟩
theorem oneMore_no : nameB oneMore = false := by decide
def Fill (i : Nat) (L : List Ent) : Prop := L.length = i ∧ ∀ s, hasB L s = true ↔ ∃ j, j < i ∧ s = nmG j
theorem fill_0 : Fill 0 [] := ⟨rfl, fun s => ⟨fun h => (by cases h), fun ⟨j, h, _⟩ => by omega⟩⟩
theorem fill_new {i : Nat} {L : List Ent} (h : Fill i L) (hi : i < 500) : hasB L (nmG i) = false := by
  cases hh : hasB L (nmG i)
  · rfl
  · obtain ⟨j, hj, e⟩ := (h.2 _).1 hh
    have := nmG_inj hi (by omega) e
    omega
theorem fill_put {i : Nat} {L : List Ent} (hL : Srt L) (h : Fill i L) (hi : i < 500) (r : Nat) : Fill (i + 1) (putR L (nmG i) r) := by
  refine ⟨by rw [len_put, fill_new h hi, h.1]; rfl, fun s => ?_⟩
  rw [has_put hL]
  simp only [Bool.or_eq_true, decide_eq_true_eq, h.2 s]
  constructor
  · rintro (rfl | ⟨j, hj, rfl⟩)
    · exact ⟨i, by omega, rfl⟩
    · exact ⟨j, by omega, rfl⟩
  · rintro ⟨j, hj, rfl⟩
    by_cases e : j = i
    · subst e; exact .inl rfl
    · exact .inr ⟨j, by omega, rfl⟩
theorem fill_more {i : Nat} {L : List Ent} (h : Fill i L) : hasB L more = false := by
  cases hh : hasB L more
  · rfl
  · obtain ⟨j, _, e⟩ := (h.2 _).1 hh
    exact absurd e (more_ne _)
theorem fill_old {i j : Nat} {L : List Ent} (h : Fill i L) (hj : j < i) : hasB L (nmG j) = true := (h.2 _).2 ⟨j, hj, rfl⟩
section
variable {b : Nat} {w0 w : World} {g bm : Nat} {L : List Ent} {E : Nat → En}
theorem full_of {s : ByteArray} (h : hasB L s = false) (hl : L.length = 500) : putE L s = 9 := by
  unfold putE fullB
  rw [h, hl]; rfl
theorem tx_ok (t : ByteArray) (h : textB t = true) {s : ByteArray} (hn : nameB s = true) : chk (textB t) s = 0 := by
  unfold chk
  rw [h, hn]; rfl
theorem tX : textB ⟨#[120]⟩ = true := by decide +kernel
theorem tY : textB ⟨#[121]⟩ = true := by decide +kernel
theorem tZ : textB ⟨#[122]⟩ = true := by decide +kernel
theorem tE : textB ⟨#[]⟩ = true := by decide +kernel
/-- Define of one name more. -/
theorem gNew {i : Nat} (h : St b w0 w g bm L E) (hF : Fill i L) (hi : i < 500) :
    Calls Try.prog 11 #[.pointer (some ⟨g, 0, none⟩), .string (nmG i), .string ⟨#[120]⟩] w fun e w' => e = .returned (.int .i64 0) ∧ ∃ L' E', St b w0 w' g bm L' E' ∧ Fill (i + 1) L' := by
  have he : dfE L (nmG i) ⟨#[120]⟩ = 0 := by
    unfold dfE
    rw [if_pos (tx_ok _ tX (nmG_ok hi))]
    unfold putE fullB
    rw [decide_eq_false (by rw [hF.1]; omega)]; simp
  have := sDefine (nmG i) ⟨#[120]⟩ (by rw [nmG_size]; decide) (by decide) h
  rw [he] at this
  exact this.mono fun _ _ ⟨a, _, c⟩ => by
    obtain ⟨e', h1, _⟩ := c rfl
    exact ⟨a, _, _, h1, fill_put h.srt hF hi _⟩
theorem gOne (h : St b w0 w g bm L E) : Calls Try.prog 11 #[.pointer (some ⟨g, 0, none⟩), .string oneMore, .string ⟨#[120]⟩] w fun e w' => e = .returned (.int .i64 6) ∧ St b w0 w' g bm L E := by
  have he : dfE L oneMore ⟨#[120]⟩ = 6 := by
    have : chk (textB ⟨#[120]⟩) oneMore = 6 := by unfold chk; rw [tX, oneMore_no]; rfl
    unfold dfE
    rw [this]; rfl
  have := sDefine oneMore ⟨#[120]⟩ (by decide) (by decide) h
  rw [he] at this
  exact this.mono fun _ _ ⟨a, c, _⟩ => ⟨a, c (by decide)⟩
theorem gMore (t : ByteArray) (htz : t.size ≤ maxLen) (ht : textB t = true) {s : ByteArray} (hs : s.size ≤ maxLen) (hn : nameB s = true) (hh : hasB L s = false) (hl : L.length = 500) (h : St b w0 w g bm L E) :
    Calls Try.prog 11 #[.pointer (some ⟨g, 0, none⟩), .string s, .string t] w fun e w' => e = .returned (.int .i64 9) ∧ St b w0 w' g bm L E := by
  have he : dfE L s t = 9 := by
    unfold dfE
    rw [if_pos (tx_ok _ ht hn), full_of hh hl]
  have := sDefine s t hs htz h
  rw [he] at this
  exact this.mono fun _ _ ⟨a, c, _⟩ => ⟨a, c (by decide)⟩
theorem gApp (hh : hasB L more = false) (hl : L.length = 500) (h : St b w0 w g bm L E) :
    Calls Try.prog 12 #[.pointer (some ⟨g, 0, none⟩), .string more, .string ⟨#[]⟩] w fun e w' => e = .returned (.int .i64 9) ∧ St b w0 w' g bm L E := by
  have he : apE L E more ⟨#[]⟩ = 9 := by
    have ht : apT L E more ⟨#[]⟩ = ⟨#[]⟩ := by unfold apT; rw [hh]; rfl
    unfold apE
    rw [if_pos (tx_ok _ tE more_ok), ht, if_neg (by decide), full_of hh hl]
  have := sAppend more ⟨#[]⟩ (by decide) (by decide) h
  rw [he] at this
  exact this.mono fun _ _ ⟨a, c, _⟩ => ⟨a, c (by decide)⟩
theorem gMac (hh : hasB L more = false) (hl : L.length = 500) (h : St b w0 w g bm L E) :
    Calls Try.prog 15 #[.pointer (some ⟨g, 0, none⟩), .string more, .slice none 0 0] w fun e w' => e = .returned (.int .i64 9) ∧ St b w0 w' g bm L E := by
  have he : mcE L more [] = 9 := by
    have hc : chk (lnsB []) more = 0 := by unfold chk; rw [more_ok]; rfl
    unfold mcE
    rw [if_pos hc, if_neg (by decide), full_of hh hl]
  have := sMacro more (fun _ => False) (.slice none 0 0) [] (by decide) h RowAt.nil (fun _ h => h.elim)
  rw [he] at this
  exact this.mono fun _ _ ⟨a, c, _⟩ => ⟨a, c (by decide)⟩
theorem gAli {d : Nat} (hd : hasB L (nmG d) = true) (hh : hasB L more = false) (hl : L.length = 500) (h : St b w0 w g bm L E) :
    Calls Try.prog 20 #[.pointer (some ⟨g, 0, none⟩), .string more, .string (nmG d)] w fun e w' => e = .returned (.int .i64 9) ∧ St b w0 w' g bm L E := by
  have he : alE L more (nmG d) = 9 := by
    have hf : fullB L more = true := by unfold fullB; rw [hh, hl]; rfl
    unfold alE
    rw [if_pos hd, if_pos more_ok, if_neg (more_ne _), if_pos hf]
  have := sAlias more (nmG d) (by decide) (by rw [nmG_size]; decide) h
  rw [he] at this
  exact this.mono fun _ _ ⟨a, c, _⟩ => ⟨a, by rw [← c (by decide)]; exact h⟩
/-- Define of a name that is there. -/
theorem gOld {d : Nat} (hdl : d < 500) (hd : hasB L (nmG d) = true) (h : St b w0 w g bm L E) :
    Calls Try.prog 11 #[.pointer (some ⟨g, 0, none⟩), .string (nmG d), .string ⟨#[121]⟩] w fun e w' => e = .returned (.int .i64 0) ∧ ∃ E', St b w0 w' g bm L E' := by
  have he : dfE L (nmG d) ⟨#[121]⟩ = 0 := by
    unfold dfE
    rw [if_pos (tx_ok _ tY (nmG_ok hdl))]
    unfold putE fullB
    rw [hd]; rfl
  have := sDefine (nmG d) ⟨#[121]⟩ (by rw [nmG_size]; decide) (by decide) h
  rw [he] at this
  exact this.mono fun _ _ ⟨a, _, c⟩ => by
    obtain ⟨e', h1, h2, _⟩ := c rfl
    rw [h2 hd, put_same hd] at h1
    exact ⟨a, _, h1⟩
theorem gRen {d : Nat} (hd : hasB L (nmG d) = true) (hh : hasB L more = false) (hl : L.length = 500) (h : St b w0 w g bm L E) :
    Calls Try.prog 28 #[.pointer (some ⟨g, 0, none⟩), .string (nmG d), .string more] w fun e w' => e = .returned (.int .i64 0) ∧ ∃ L', St b w0 w' g bm L' E ∧ L'.length = 500 ∧ hasB L' (nmG d) = false := by
  have he : rnE L (nmG d) more = 0 := by unfold rnE; rw [hd, more_ok]; rfl
  have := sRename (nmG d) more (by rw [nmG_size]; decide) (by decide) h
  rw [he] at this
  exact this.mono fun _ _ ⟨a, _, c⟩ => by
    refine ⟨a, _, c rfl, ?_, ?_⟩
    · have := len_del_has hd
      rw [len_put, has_del h.srt, hh, Bool.and_false]
      simp
      omega
    · rw [has_put h.srt.del, has_del h.srt, decide_eq_false (fun e => more_ne d e.symm)]
      simp
end
end Go.Proofs.Ytbedddgfijpbcaa
