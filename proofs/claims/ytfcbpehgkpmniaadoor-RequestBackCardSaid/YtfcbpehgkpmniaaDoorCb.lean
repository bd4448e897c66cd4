/- Walks of the code's cutter: a function that remembers where it is. -/
import Derived.Test.YtfcbpehgkpmniaaDoorCa
import Derived.Test.YtfcbpehgkpmniaaDoorAi
namespace Go.Proofs.YtfcbpehgkpmniaaDoor
open Go.RowKit Go.Maps Go.WideMaps

/-- What is cut off: the bytes that are as asked, so many at most; the rest. -/
def cuA (p : UInt8 → Bool) (n : Nat) (l : List UInt8) : List UInt8 := (l.take n).takeWhile p
def cuB (p : UInt8 → Bool) (n : Nat) (l : List UInt8) : List UInt8 := l.drop (cuA p n l).length
theorem cu_cons (p : UInt8 → Bool) (n : Nat) (c : UInt8) (t : List UInt8) : cuA p (n + 1) (c :: t) = if p c then c :: cuA p n t else [] := by
  unfold cuA
  rw [List.take_succ_cons, List.takeWhile_cons]
theorem cu_rest (p : UInt8 → Bool) (n : Nat) (c : UInt8) (t : List UInt8) : cuB p (n + 1) (c :: t) = if p c then cuB p n t else c :: t := by
  unfold cuB
  rw [cu_cons]
  cases p c <;> rfl
theorem cu_zero (p : UInt8 → Bool) (l : List UInt8) : cuA p 0 l = [] ∧ cuB p 0 l = l := by
  unfold cuB cuA
  simp
theorem cu_nil (p : UInt8 → Bool) (n : Nat) : cuA p n [] = [] ∧ cuB p n [] = [] := by
  unfold cuB cuA
  simp
theorem cu_all {p : UInt8 → Bool} {n : Nat} {l : List UInt8} (h : l.length ≤ n) : cuA p n l = l.takeWhile p ∧ cuB p n l = l.dropWhile p := by
  unfold cuB cuA
  rw [List.take_of_length_le h]
  refine ⟨rfl, ?_⟩
  conv => lhs; arg 2; rw [← List.takeWhile_append_dropWhile (p := p) (l := l)]
  rw [List.drop_append_of_le_length (Nat.le_refl _), List.drop_length, List.nil_append]
/-- The cutter's place and its text. -/
def CutAt (w : World) (ba bt : Nat) (s : ByteArray) (i : Nat) : Prop := Blk w ba 3 #[.int .i64 (i : Int)] ∧ Blk w bt 9 #[.string s]
theorem CutAt.ne {w : World} {ba bt : Nat} {s : ByteArray} {i : Nat} (h : CutAt w ba bt s i) : ba ≠ bt := blk_ne h.1 h.2 (by decide)
theorem CutAt.below {w w' : World} {ba bt B : Nat} {s : ByteArray} {i : Nat} (h : CutAt w ba bt s i) (hb : Below B w w') (h1 : ba < B) (h2 : bt < B) : CutAt w' ba bt s i := ⟨h.1.below hb h1, h.2.below hb h2⟩
def posAt (w : World) (b : Nat) : Int := match w.cell? ⟨b, 0, none⟩ with
  | some (.int _ n) => n
  | _ => 0
theorem posAt_of {w : World} {b : Nat} {k : IntKind} {n : Int} (h : w.cell? ⟨b, 0, none⟩ = some (.int k n)) : posAt w b = n := by unfold posAt; rw [h]
/-- cutter. -/
theorem cCutter (s : ByteArray) (w : World) :
    Calls Tryd.prog 27 #[.string s] w fun e w' => e = .returned (.func (.func 55) #[] #[.pointer (some ⟨w.heap.size + 1, 0, none⟩), .pointer (some ⟨w.heap.size, 0, none⟩)]) ∧ CutAt w' (w.heap.size + 1) w.heap.size s 0 ∧ Below w.heap.size w w' ∧ w'.heap.size = w.heap.size + 2 := by
  have hb : Below w.heap.size w ((w.alloc (.cells #[.string s] 9)).alloc (.cells #[.int .i64 0] 3)) := ((Below.refl _ _).alloc (Nat.le_refl _) _).alloc (by simp) _
  have h1 : Blk ((w.alloc (.cells #[.string s] 9)).alloc (.cells #[.int .i64 0] 3)) (w.heap.size + 1) 3 #[.int .i64 0] := by
    have := Blk.new (w.alloc (.cells #[.string s] 9)) 3 #[.int .i64 0]
    rwa [World.size_alloc] at this
  have h2 : Blk ((w.alloc (.cells #[.string s] 9)).alloc (.cells #[.int .i64 0] 3)) w.heap.size 9 #[.string s] := (Blk.new w _ _).alloc _
  have HP := Lib.hid (show (CutAt ((w.alloc (.cells #[.string s] 9)).alloc (.cells #[.int .i64 0] 3)) (w.heap.size + 1) w.heap.size s 0) ∧ Below w.heap.size w ((w.alloc (.cells #[.string s] 9)).alloc (.cells #[.int .i64 0] 3)) ∧ ((w.alloc (.cells #[.string s] 9)).alloc (.cells #[.int .i64 0] 3)).heap.size = w.heap.size + 2 from ⟨⟨h1, h2⟩, hb, by simp⟩)
  clear hb h1 h2
  go_enter Tryd.func27, Tryd.ntmps27
  go_wp2_with fail
  go_ret
  exact ⟨rfl, HP.out⟩
/-- The function that asks for other bytes than the first one. -/
theorem cIsText (q c : UInt8) (bq : Nat) (w : World) (h : Blk w bq 9 #[.string ⟨#[q]⟩]) :
    Calls Tryd.prog 57 #[.int .u8 (c.toNat : Int), .pointer (some ⟨bq, 0, none⟩)] w fun e w' => e = .returned (.bool (!decide (c = q))) ∧ w = w' := by
  have c0 := h.cell 0
  simp only [List.getElem?_toArray, List.getElem?_cons_zero] at c0
  clear h
  have hn : (!decide (c = q)) = ((c.toNat : Int) != (q.toNat : Int)) := u8_neB c q
  rw [hn]
  clear hn
  have hq1 : ((⟨#[q]⟩ : ByteArray).size : Int) = 1 := rfl
  have hq0 : ((⟨#[q]⟩ : ByteArray)[0]'(Nat.zero_lt_one)) = q := rfl
  go_enter Tryd.func57, Tryd.ntmps57
  go_wp2_with fail
  go_ret
  exact ⟨rfl, rfl⟩
section
variable {s : ByteArray} {ba bt i n : Nat} {w : World}
set_option maxRecDepth 100000 in
set_option maxHeartbeats 1000000 in
/-- The cutter's function, by a function of bytes. -/
theorem cCutK (k : Nat) (p : UInt8 → Bool) (ek : ∀ args w, (callFunc k args).run Tryd.prog w = .ok (.enter k args) w) (hp : ∀ (c : UInt8) (w : World), Calls Tryd.prog k #[.int .u8 (c.toNat : Int)] w fun e w' => e = .returned (.bool (p c)) ∧ w = w')
    (hs : s.size ≤ maxLen) (hi : i ≤ s.size) (hn : n ≤ 2000) (h : CutAt w ba bt s i) :
    Calls Tryd.prog 55 #[.int .i64 (n : Int), .func (.func k) #[] #[], .pointer (some ⟨ba, 0, none⟩), .pointer (some ⟨bt, 0, none⟩)] w fun e w' =>
      ∃ j, e = .returned (.string (s.extract i j)) ∧ i ≤ j ∧ j ≤ s.size ∧ (s.extract i j).data.toList = cuA p n (dr s i) ∧ dr s j = cuB p n (dr s i) ∧ CutAt w' ba bt s j ∧ Turn (· = ba) w w' := by
  have HP := Lib.hid hp
  have hne := h.ne
  have c0 := h.1.cell 0
  have d0 := h.2.cell 0
  simp only [List.getElem?_toArray, List.getElem?_cons_zero] at c0 d0
  have HC := Lib.hid h
  unfold maxLen at hs
  clear h hp
  go_enter Tryd.func55, Tryd.ntmps55
  go_wp2_with fail
  clear c0 d0
  go_loopw [] (fun wr => ∃ j : Nat, i ≤ j ∧ j ≤ s.size ∧ j - i ≤ n ∧ CutAt wr ba bt s j ∧ Turn (· = ba) w wr ∧ (s.extract i j).data.toList ++ cuA p (n - (j - i)) (dr s j) = cuA p n (dr s i) ∧ cuB p (n - (j - i)) (dr s j) = cuB p n (dr s i)) (fun wr => s.size - (posAt wr ba).toNat)
  case atStart => exact ⟨i, Nat.le_refl _, hi, by omega, HC.out, Turn.refl _ _, by rw [ext_none, Nat.sub_self]; rfl, by rw [Nat.sub_self]; rfl⟩
  case round =>
    obtain ⟨j, hij, hj, hjn, hc, hT, h1, h2⟩ := hrel
    have c0 := hc.1.cell 0
    have f0 := hc.1.frozen 0
    have d0 := hc.2.cell 0
    simp only [List.getElem?_toArray, List.getElem?_cons_zero] at c0 d0
    have H1 := Lib.hid h1
    have H2 := Lib.hid h2
    have HCJ := Lib.hid hc
    have HT := Lib.hid hT
    clear h1 h2 hc hT
    by_cases hlt : j < s.size
    · have hcs := Lib.hid (dr_cons hlt)
      by_cases hjn2 : j - i < n
      · obtain ⟨m, hm⟩ : ∃ m, n - (j - i) = m + 1 := ⟨n - (j - i) - 1, by omega⟩
        have hi2 : (j : Int) - (i : Int) < (n : Int) := by omega
        cases h3 : p s[j]
        · have h := Lib.hid h3
          go_wp2_with (go_at_fn k; refine (HP.out _ _).mono ?_; rintro e w1 ⟨rfl, rfl⟩; rw [h3])
          go_ret
          refine ⟨j, rfl, hij, hj, ?_, ?_, HCJ.out, HT.out⟩
          · rw [← H1.out, hm, hcs.out, cu_cons, h.out]; simp
          · rw [← H2.out, hm, hcs.out, cu_rest, h.out]; rfl
        · have h := Lib.hid h3
          go_wp2_with (go_at_fn k; refine (HP.out _ _).mono ?_; rintro e w1 ⟨rfl, rfl⟩; rw [h3])
          go_roundw
          case rel =>
            refine ⟨j + 1, by omega, hlt, by omega, ⟨by have := blk_set (o := 0) HCJ.out.1 (.int .i64 ((j : Int) + 1)); simpa using this, HCJ.out.2.far (by simpa using (fun e => hne e.symm)) _⟩, HT.out.trans (turn_set _ _ _ _) (fun _ _ h => h), ?_, ?_⟩
            · rw [← H1.out, hm, hcs.out, cu_cons, h.out, ext_step hij hlt, List.append_assoc, show n - (j + 1 - i) = m by omega]; rfl
            · rw [← H2.out, hm, hcs.out, cu_rest, h.out, show n - (j + 1 - i) = m by omega]; rfl
          case measure => rw [posAt_of (cell_set_at HCJ.out.1 (.int .i64 ((j : Int) + 1)) (by simp)), posAt_of c0]; omega
      · have hi2 : ¬ ((j : Int) - (i : Int) < (n : Int)) := by omega
        go_wp2_with fail
        go_ret
        refine ⟨j, rfl, hij, hj, ?_, ?_, HCJ.out, HT.out⟩
        · rw [← H1.out, show n - (j - i) = 0 by omega, (cu_zero _ _).1, List.append_nil]; exact (ext_dr s i j).symm
        · rw [← H2.out, show n - (j - i) = 0 by omega, (cu_zero _ _).2]
    · have he := Lib.hid (dr_end (s := s) (i := j) (by omega))
      go_wp2_with fail
      go_ret
      refine ⟨j, rfl, hij, hj, ?_, ?_, HCJ.out, HT.out⟩
      · rw [← H1.out, he.out, (cu_nil _ _).1, List.append_nil]
      · rw [← H2.out, he.out, (cu_nil _ _).2]
set_option maxRecDepth 100000 in
set_option maxHeartbeats 1000000 in
/-- The cutter's function, by the function that asks for other bytes than the first one. -/
theorem cCutT (q : UInt8) (bq : Nat) (hq : Blk w bq 9 #[.string ⟨#[q]⟩]) (hbq : bq ≠ ba)
    (hs : s.size ≤ maxLen) (hi : i ≤ s.size) (hn : n ≤ 2000) (h : CutAt w ba bt s i) :
    Calls Tryd.prog 55 #[.int .i64 (n : Int), .func (.func 57) #[] #[.pointer (some ⟨bq, 0, none⟩)], .pointer (some ⟨ba, 0, none⟩), .pointer (some ⟨bt, 0, none⟩)] w fun e w' =>
      ∃ j, e = .returned (.string (s.extract i j)) ∧ i ≤ j ∧ j ≤ s.size ∧ (s.extract i j).data.toList = cuA (fun c => !decide (c = q)) n (dr s i) ∧ dr s j = cuB (fun c => !decide (c = q)) n (dr s i) ∧ CutAt w' ba bt s j ∧ Turn (· = ba) w w' := by
  have HP := Lib.hid (fun (c : UInt8) (w : World) h => cIsText q c bq w h)
  have HQ := Lib.hid hq
  obtain ⟨p, hp⟩ : ∃ p : UInt8 → Bool, p = fun c => !decide (c = q) := ⟨_, rfl⟩
  have hne := h.ne
  have c0 := h.1.cell 0
  have d0 := h.2.cell 0
  simp only [List.getElem?_toArray, List.getElem?_cons_zero] at c0 d0
  have HC := Lib.hid h
  unfold maxLen at hs
  rw [← hp]
  have HPE := Lib.hid hp
  clear h hp hq
  go_enter Tryd.func55, Tryd.ntmps55
  go_wp2_with fail
  clear c0 d0
  go_loopw [] (fun wr => ∃ j : Nat, i ≤ j ∧ j ≤ s.size ∧ j - i ≤ n ∧ CutAt wr ba bt s j ∧ Turn (· = ba) w wr ∧ (s.extract i j).data.toList ++ cuA p (n - (j - i)) (dr s j) = cuA p n (dr s i) ∧ cuB p (n - (j - i)) (dr s j) = cuB p n (dr s i)) (fun wr => s.size - (posAt wr ba).toNat)
  case atStart => exact ⟨i, Nat.le_refl _, hi, by omega, HC.out, Turn.refl _ _, by rw [ext_none, Nat.sub_self]; rfl, by rw [Nat.sub_self]; rfl⟩
  case round =>
    obtain ⟨j, hij, hj, hjn, hc, hT, h1, h2⟩ := hrel
    have c0 := hc.1.cell 0
    have f0 := hc.1.frozen 0
    have d0 := hc.2.cell 0
    simp only [List.getElem?_toArray, List.getElem?_cons_zero] at c0 d0
    have H1 := Lib.hid h1
    have H2 := Lib.hid h2
    have HCJ := Lib.hid hc
    have HT := Lib.hid hT
    clear h1 h2 hc hT
    by_cases hlt : j < s.size
    · have hcs := Lib.hid (dr_cons hlt)
      by_cases hjn2 : j - i < n
      · obtain ⟨m, hm⟩ : ∃ m, n - (j - i) = m + 1 := ⟨n - (j - i) - 1, by omega⟩
        have hi2 : (j : Int) - (i : Int) < (n : Int) := by omega
        cases h3 : p s[j]
        · have h := Lib.hid h3
          go_wp2_with (go_at_call 57; refine (HP.out _ _ (HT.out.blk HQ.out hbq)).mono ?_; rintro e w1 ⟨rfl, rfl⟩; rw [show (!decide (s[j] = q)) = p s[j] by rw [HPE.out], h3])
          go_ret
          refine ⟨j, rfl, hij, hj, ?_, ?_, HCJ.out, HT.out⟩
          · rw [← H1.out, hm, hcs.out, cu_cons, h.out]; simp
          · rw [← H2.out, hm, hcs.out, cu_rest, h.out]; rfl
        · have h := Lib.hid h3
          go_wp2_with (go_at_call 57; refine (HP.out _ _ (HT.out.blk HQ.out hbq)).mono ?_; rintro e w1 ⟨rfl, rfl⟩; rw [show (!decide (s[j] = q)) = p s[j] by rw [HPE.out], h3])
          go_roundw
          case rel =>
            refine ⟨j + 1, by omega, hlt, by omega, ⟨by have := blk_set (o := 0) HCJ.out.1 (.int .i64 ((j : Int) + 1)); simpa using this, HCJ.out.2.far (by simpa using (fun e => hne e.symm)) _⟩, HT.out.trans (turn_set _ _ _ _) (fun _ _ h => h), ?_, ?_⟩
            · rw [← H1.out, hm, hcs.out, cu_cons, h.out, ext_step hij hlt, List.append_assoc, show n - (j + 1 - i) = m by omega]; rfl
            · rw [← H2.out, hm, hcs.out, cu_rest, h.out, show n - (j + 1 - i) = m by omega]; rfl
          case measure => rw [posAt_of (cell_set_at HCJ.out.1 (.int .i64 ((j : Int) + 1)) (by simp)), posAt_of c0]; omega
      · have hi2 : ¬ ((j : Int) - (i : Int) < (n : Int)) := by omega
        go_wp2_with fail
        go_ret
        refine ⟨j, rfl, hij, hj, ?_, ?_, HCJ.out, HT.out⟩
        · rw [← H1.out, show n - (j - i) = 0 by omega, (cu_zero _ _).1, List.append_nil]; exact (ext_dr s i j).symm
        · rw [← H2.out, show n - (j - i) = 0 by omega, (cu_zero _ _).2]
    · have he := Lib.hid (dr_end (s := s) (i := j) (by omega))
      go_wp2_with fail
      go_ret
      refine ⟨j, rfl, hij, hj, ?_, ?_, HCJ.out, HT.out⟩
      · rw [← H1.out, he.out, (cu_nil _ _).1, List.append_nil]
      · rw [← H2.out, he.out, (cu_nil _ _).2]
end
end Go.Proofs.YtfcbpehgkpmniaaDoor
