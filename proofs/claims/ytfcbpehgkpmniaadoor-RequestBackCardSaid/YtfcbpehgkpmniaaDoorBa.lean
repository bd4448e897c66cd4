/- Walks of strings.IndexRune, IndexAny, ContainsAny at blanks, of whatever bytes. -/
import Derived.Test.YtfcbpehgkpmniaaDoorCe
import Derived.Laws.RangeAny
import Derived.Laws.Runes
import Derived.Lib.DecodeN
import Derived.Lib.TrimU
import Derived.Lib.OthersKept
import Derived.Deep.LoopGhost
import Derived.WalkMore
import Derived.BigQuiet
namespace Go.Proofs.YtfcbpehgkpmniaaDoor
open Go.RowKit Go.Maps Go.WideMaps

theorem iter_below (w : World) (s : ByteArray) (i : Nat) : Below w.heap.size w (w.iter s i) := (Below.refl _ _).alloc (Nat.le_refl _) _
set_option maxRecDepth 100000 in
set_option maxHeartbeats 4000000 in
/-- IndexRune among the blanks, of the rune for what is no text. -/
theorem cIndexBad (w : World) :
    Calls Tryd.prog 73 #[.string ⟨#[32, 9]⟩, .int .i32 65533] w fun e w' => (∃ v : Int, e = .returned (.int .i64 v)) ∧ Below w.heap.size w w' := by
  go_enter Tryd.func73, Tryd.ntmps73
  go_wp2_with fail
  go_loopg [5, 6] 2 (fun g _ _ wx => ∃ i : Nat, i + g = 2 ∧ wx = w.iter ⟨#[32, 9]⟩ i)
  case atStart => exact ⟨0, rfl, rfl⟩
  case round =>
    obtain ⟨i, hig, rfl⟩ := hrel
    rcases (show i = 0 ∨ i = 1 ∨ i = 2 by omega) with rfl | rfl | rfl
    · obtain rfl : gk = 2 := by omega
      have hnx := fun ty => run_next_ascii (P := Tryd.prog) w ⟨#[32, 9]⟩ 0 ty (by decide) (by decide)
      go_wp2
      go_roundg 1
      case measure => omega
      case rel => exact ⟨1, rfl, rfl⟩
    · obtain rfl : gk = 1 := by omega
      have hnx := fun ty => run_next_ascii (P := Tryd.prog) w ⟨#[32, 9]⟩ 1 ty (by decide) (by decide)
      go_wp2
      go_roundg 0
      case measure => omega
      case rel => exact ⟨2, rfl, rfl⟩
    · have hnx := fun ty => run_next_end (P := Tryd.prog) w ⟨#[32, 9]⟩ 2 ty (by decide)
      go_wp2
      go_ret
      exact ⟨⟨_, rfl⟩, iter_below _ _ _⟩
theorem valid_lib (r : Int) (h : Lib.validRune r = true) : Utf8.valid r = true := by
  have e : Lib.validRune r = Go.validRune r := rfl
  rw [validRune_eq, ← e, h]
set_option maxRecDepth 100000 in
set_option maxHeartbeats 4000000 in
/-- IndexRune among the blanks, of a rune that is no byte. -/
theorem cIndexRune (r : Int) (h0 : 128 ≤ r) (h1 : r ≤ 1114111) (w : World) :
    Calls Tryd.prog 73 #[.string ⟨#[32, 9]⟩, .int .i32 r] w fun e w' => (∃ v : Int, e = .returned (.int .i64 v)) ∧ Below w.heap.size w w' := by
  by_cases he : r = 65533
  · subst he
    exact cIndexBad w
  have HV := Lib.hid (fun w => Tryd.utf8_ValidRune r w)
  have HI := Lib.hid (fun s c w => Tryd.strings_IndexByte s c w)
  have hB : (r == 65533) = false := by simp [he]
  cases hb : Lib.validRune r
  · rw [hb] at HV
    go_enter Tryd.func73, Tryd.ntmps73
    go_wp2_with (go_at_call 80; refine (HV.out _).mono ?_; rintro e w1 ⟨rfl, rfl⟩)
    go_ret
    exact ⟨⟨_, rfl⟩, Below.refl _ _⟩
  · rw [hb] at HV
    obtain ⟨n2, n4, hl⟩ := encode_facts r (valid_lib r hb) h0
    by_cases h2 : (Utf8.encode r).size = 2
    · have hl1 := hl (by omega)
      have hlast : ((Utf8.encode r)[1]'(by omega)).toNat = ((Utf8.encode r)[(Utf8.encode r).size - 1]'(by omega)).toNat := by simp [h2]
      have hne : ((((⟨#[32, 9]⟩ : ByteArray)[1]'(by decide)).toNat : Int) != (((Utf8.encode r)[1]'(by omega)).toNat : Int)) = true := by
        have e : ((((⟨#[32, 9]⟩ : ByteArray)[1]'(by decide)).toNat : Int)) = 9 := rfl
        rw [e, bne_iff_ne]; omega
      have h2i : ((Utf8.encode r).size : Int) = 2 := by omega
      have hw2 : IntKind.i64.wrap 2 = 2 := by decide
      have HI2 : Hid (∀ (c : Int) (w : World), Calls Tryd.prog 71 #[.string ByteArray.empty, .int .u8 c] w fun e w' => e = .returned (.int .i64 (-1)) ∧ w' = w) := Lib.hid (fun c w => HI.out ByteArray.empty c w)
      clear hl hl1 hlast n2 n4
      go_enter Tryd.func73, Tryd.ntmps73
      go_wp2_with (go_at_call 80; refine (HV.out _).mono ?_; rintro e w1 ⟨rfl, rfl⟩)
      go_step3
      go_wp2
      refine wp_loop_rounds 1 ?_
      rw [rounds_succ]
      go_wp2
      go_step3
      go_wp2
      go_quiet (fail)
      go_wp2
      go_region_with (go_at_call 71; refine (HI2.out _ _).mono ?_; rintro e w2 ⟨rfl, rfl⟩)
      all_goals
        go_wp2
        simp only [Exit.noGoto_ret, Exit.inBlock, Exit.then]
        go_ret
        exact ⟨⟨_, rfl⟩, below_drewN (Below.refl _ _) _⟩
    · have h3 : ¬ ((Utf8.encode r).size : Int) - 1 < 2 := by omega
      go_enter Tryd.func73, Tryd.ntmps73
      go_wp2_with (go_at_call 80; refine (HV.out _).mono ?_; rintro e w1 ⟨rfl, rfl⟩)
      go_step3
      go_wp2
      refine wp_loop_rounds 1 ?_
      rw [rounds_succ]
      go_wp2
      rw [Exit.noGoto_ret]
      go_ret
      exact ⟨⟨_, rfl⟩, Below.refl _ _⟩
theorem get_of (s : ByteArray) (i : Nat) (h : i < s.size) : s.get! i = s[i] := by
  simp [ByteArray.get!, getElem!_pos, h]
  rfl
theorem not_blank {c : UInt8} (h : 128 ≤ c.toNat) : blB c = false := by
  unfold blB
  simp
  omega
/-- What is decoded at a byte that is none of a text's own: no blank is passed over. -/
theorem dec_high (s : ByteArray) (i : Nat) (h : i < s.size) (ha : 128 ≤ (s[i]).toNat) : i + (Utf8.decode s i).2 ≤ s.size ∧ ∀ j (hj : j < s.size), i ≤ j → j < i + (Utf8.decode s i).2 → blB s[j] = false := by
  have h1 : ∀ k, i + k < s.size → s.get! (i + k) = s[i + k]! := fun k hk => by rw [get_of s _ hk, getElem!_pos s _ hk]
  rw [Lib.decode_at]
  have e0 : s.get! i = s[i] := get_of s i h
  rw [e0]
  generalize hb0 : (s[i]).toNat = b0 at *
  generalize hb1 : (s.get! (i + 1)).toNat = b1
  generalize hb2 : (s.get! (i + 2)).toNat = b2
  generalize hb3 : (s.get! (i + 3)).toNat = b3
  have key : (Lib.decodeN (s.size - i) b0 b1 b2 b3).2 = 1 ∨ ((Lib.decodeN (s.size - i) b0 b1 b2 b3).2 = 2 ∧ 1 < s.size - i ∧ b1 / 64 = 2) ∨ ((Lib.decodeN (s.size - i) b0 b1 b2 b3).2 = 3 ∧ 2 < s.size - i ∧ b1 / 64 = 2 ∧ b2 / 64 = 2) ∨ ((Lib.decodeN (s.size - i) b0 b1 b2 b3).2 = 4 ∧ 3 < s.size - i ∧ b1 / 64 = 2 ∧ b2 / 64 = 2 ∧ b3 / 64 = 2) := by
    unfold Lib.decodeN
    rw [if_neg (by omega)]
    split
    · rename_i q
      split
      · exact .inr (.inl ⟨rfl, q.2.1, q.2.2⟩)
      · exact .inl rfl
    · split
      · rename_i q
        split
        · exact .inr (.inr (.inl ⟨rfl, q.2.2.1, q.2.1.2, q.2.2.2⟩))
        · exact .inl rfl
      · split
        · rename_i q
          split
          · exact .inr (.inr (.inr ⟨rfl, q.2.2.2.1, q.2.1.2, q.2.2.1.2, q.2.2.2.2⟩))
          · exact .inl rfl
        · exact .inl rfl
  have at0 : blB s[i] = false := not_blank (by omega)
  have atk : ∀ k (hk : i + k < s.size) (b : Nat), (s.get! (i + k)).toNat = b → b / 64 = 2 → blB s[i + k] = false := fun k hk b e1 e2 => not_blank (by rw [get_of s _ hk] at e1; omega)
  rcases key with q | ⟨q, q1, q2⟩ | ⟨q, q1, q2, q3⟩ | ⟨q, q1, q2, q3, q4⟩
  all_goals
    rw [q]
    refine ⟨by omega, fun j hj h1 h2 => ?_⟩
  · obtain rfl : j = i := by omega
    exact at0
  · rcases (show j = i ∨ j = i + 1 by omega) with rfl | rfl
    · exact at0
    · exact atk 1 hj b1 hb1 q2
  · rcases (show j = i ∨ j = i + 1 ∨ j = i + 2 by omega) with rfl | rfl | rfl
    · exact at0
    · exact atk 1 hj b1 hb1 q2
    · exact atk 2 hj b2 hb2 q3
  · rcases (show j = i ∨ j = i + 1 ∨ j = i + 2 ∨ j = i + 3 by omega) with rfl | rfl | rfl | rfl
    · exact at0
    · exact atk 1 hj b1 hb1 q2
    · exact atk 2 hj b2 hb2 q3
    · exact atk 3 hj b3 hb3 q4
/-- A text has no blank. -/
def noBl (s : ByteArray) : Prop := s.data.toList.any blB = false
theorem any_bl {s : ByteArray} (h : ∀ j (hj : j < s.size), blB s[j] = false) : noBl s := by
  unfold noBl
  rw [List.any_eq_false]
  intro c hc
  obtain ⟨j, hj, rfl⟩ := List.getElem_of_mem hc
  have h2 : blB s.data.toList[j] = false := h j hj
  simpa using h2
set_option maxRecDepth 100000 in
set_option maxHeartbeats 4000000 in
/-- IndexAny among the blanks: where it finds none there is none. -/
theorem cIndexAny (s : ByteArray) (hs : s.size ≤ maxLen) (w : World) :
    Calls Tryd.prog 59 #[.string s, .string ⟨#[32, 9]⟩] w fun e w' => (∃ v : Int, e = .returned (.int .i64 v) ∧ (v < 0 → noBl s)) ∧ Below w.heap.size w w' := by
  have HU := Lib.hid (fun n w => Tryd.strings_shouldUseASCIISet n w)
  unfold maxLen at hs
  by_cases h8 : (8 : Int) < (s.size : Int)
  · have HM := Lib.hid (fun w => Tryd.strings_makeASCIISet zeroSet ⟨#[32, 9]⟩ w (by decide) (by
      intro j b hb
      have : b ∈ ([32, 9] : List UInt8) := List.mem_of_getElem? hb
      simp only [List.mem_cons, List.not_mem_nil, or_false] at this
      rcases this with rfl | rfl <;> decide))
    have hsc : (storeCells ⟨w.heap.size + 1, 0, none⟩ (Lib.setCells [32, 9]).toList 0).run Tryd.prog ((w.alloc (.cells (Lib.setCells [32, 9]) 77)).alloc (.cells Tryd.zeroCells77 77)) = .ok () ((w.alloc (.cells (Lib.setCells [32, 9]) 77)).alloc (.cells (Lib.setCells [32, 9]) 77)) := by
      have := run_storeCells_new (P := Tryd.prog) (w.alloc (.cells (Lib.setCells [32, 9]) 77)) 77 Tryd.zeroCells77 (Lib.setCells [32, 9]) (by rw [Lib.setCells_size]; kernel_rfl) (by rw [Lib.setCells_size]; kernel_rfl) (Lib.setCells_one _)
      simpa using this
    have HBk : Hid (Blk ((w.alloc (.cells (Lib.setCells [32, 9]) 77)).alloc (.cells (Lib.setCells [32, 9]) 77)) (w.heap.size + 1) 77 blSet) := Lib.hid (by
      have := Blk.new (w.alloc (.cells (Lib.setCells [32, 9]) 77)) 77 (Lib.setCells [32, 9])
      rwa [World.size_alloc] at this)
    have HC := Lib.hid (fun (c : UInt8) => Tryd.asciiSet_contains (w.heap.size + 1) c (blB c) _ (by rw [HBk.out.cell]; exact bl_cell c))
    have HBw := Lib.hid (((Below.refl w.heap.size w).alloc (Nat.le_refl _) (.cells (Lib.setCells [32, 9]) 77)).alloc (by simp) (.cells (Lib.setCells [32, 9]) 77))
    go_enter Tryd.func59, Tryd.ntmps59
    go_wp2_with (first
      | (go_at_call 74; refine (HU.out _ _).mono ?_; rintro e w1 ⟨rfl, rfl⟩; rw [decide_eq_true h8])
      | (go_at_call 47; refine (HM.out _).mono ?_; rintro e w1 ⟨rfl, rfl⟩))
    clear hsc
    go_loop [8] (fun v8 => ∃ k : Nat, k ≤ s.size ∧ v8 = .int .i64 k ∧ ∀ j (hj : j < s.size), j < k → blB s[j] = false) (fun v8 => s.size - (intOf v8).toNat)
    case atStart => exact ⟨0, Nat.zero_le _, rfl, fun j _ h => absurd h (Nat.not_lt_zero _)⟩
    case round =>
      obtain ⟨k, hk, rfl, hno⟩ := hrel
      have HN := Lib.hid hno
      clear hno
      by_cases hlt : k < s.size
      · cases hbk : blB s[k]
        · have HBk2 := Lib.hid hbk
          clear hbk
          go_wp2_with (go_at_call 67; refine (HC.out _).mono ?_; rintro e w1 ⟨rfl, rfl⟩; rw [HBk2.out])
          go_round
          case rel =>
            refine ⟨k + 1, hlt, by go_num, fun j hj h => ?_⟩
            by_cases e : j = k
            · subst e; exact HBk2.out
            · exact HN.out j hj (by omega)
          case measure => simp [intOf]; omega
        · have HBk2 := Lib.hid hbk
          clear hbk
          go_wp2_with (go_at_call 67; refine (HC.out _).mono ?_; rintro e w1 ⟨rfl, rfl⟩; rw [HBk2.out])
          go_ret
          exact ⟨⟨_, rfl, fun h => by omega⟩, HBw.out⟩
      · go_wp2_with fail
        go_ret
        exact ⟨⟨_, rfl, fun _ => any_bl (fun j hj => HN.out j hj (by omega))⟩, HBw.out⟩
  · go_enter Tryd.func59, Tryd.ntmps59
    go_wp2_with (go_at_call 74; refine (HU.out _ _).mono ?_; rintro e w1 ⟨rfl, hw⟩; rw [hw, decide_eq_false h8])
    have HA := Lib.hid (fun r w h0 h1 => Tryd.strings_IndexRune_ascii ⟨#[32, 9]⟩ r w h0 h1)
    have HI := Lib.hid (fun r h0 h1 w => cIndexRune r h0 h1 w)
    go_loopg [9, 10] s.size (fun g _ _ wx => ∃ i : Nat, i + g = s.size ∧ wx.heap[w.heap.size]? = some (.stringIter s i) ∧ Below w.heap.size w wx ∧ ∀ j (hj : j < s.size), j < i → blB s[j] = false)
    case atStart => exact ⟨0, by omega, World.iter_heap _ _ _, iter_below _ _ _, fun j _ h => absurd h (Nat.not_lt_zero _)⟩
    case round =>
      obtain ⟨i, hig, hit, hbw, hno⟩ := hrel
      have HN := Lib.hid hno
      have HT := Lib.hid hit
      have HB := Lib.hid hbw
      clear hno hit hbw
      by_cases hlt : i < s.size
      · by_cases ha : (s[i]).toNat < 128
        · have hnx := fun ty => Lib.run_next_ascii_at (P := Tryd.prog) wr w.heap.size s i ty HT.out hlt ha
          have HB1 := Lib.hid (Lib.below_iterAt HB.out (Nat.le_refl _) s (i + 1))
          have HT1 := Lib.hid (Lib.iterAt_heap wr w.heap.size s i (i + 1) HT.out)
          have hix := idx_mem [32, 9] s[i]
          rw [bl_in] at hix
          have hback : ((((s[i]).toNat : Int)).toNat).toUInt8 = s[i] := by simp
          have HAi := Lib.hid (fun w => HA.out ((s[i]).toNat : Int) w (by omega) (by omega))
          rw [hback] at HAi
          generalize Lib.indexByte _ s[i] = v at *
          cases hbk : blB s[i]
          · have HBk := Lib.hid hbk
            rw [hbk] at hix
            have hv : ¬ (0 : Int) ≤ v := of_decide_eq_false hix
            clear hbk hix hback
            go_wp2_with (go_at_call 73; refine (HAi.out _).mono ?_; rintro e w1 ⟨rfl, rfl⟩)
            go_roundg (s.size - (i + 1))
            case measure => omega
            case rel =>
              refine ⟨i + 1, by omega, HT1.out, HB1.out, fun j hj h => ?_⟩
              by_cases e : j = i
              · subst e; exact HBk.out
              · exact HN.out j hj (by omega)
          · rw [hbk] at hix
            have hv : (0 : Int) ≤ v := of_decide_eq_true hix
            clear hbk hix hback
            go_wp2_with (go_at_call 73; refine (HAi.out _).mono ?_; rintro e w1 ⟨rfl, rfl⟩)
            go_ret
            exact ⟨⟨_, rfl, fun h => by omega⟩, HB1.out⟩
        · have hhi : 128 ≤ (s[i]).toNat := by omega
          have hnx := fun ty => Lib.run_next_any_at (P := Tryd.prog) wr w.heap.size s i ty HT.out hlt
          obtain ⟨d1, d2⟩ := decode_high s i hlt hhi
          obtain ⟨e1, e2⟩ := dec_high s i hlt hhi
          have d3 := Lib.rune_le s i
          have HB1 := Lib.hid (Lib.below_iterAt HB.out (Nat.le_refl _) s (i + (Utf8.decode s i).2))
          have HT1 := Lib.hid (Lib.iterAt_heap wr w.heap.size s i (i + (Utf8.decode s i).2) HT.out)
          have HIi := Lib.hid (fun w => HI.out ((Utf8.decode s i).1 : Int) (by omega) (by omega) w)
          have hsl : w.heap.size < (wr.iterAt w.heap.size s (i + (Utf8.decode s i).2)).heap.size := (Array.getElem?_eq_some_iff.1 HT1.out).1
          have HSl := Lib.hid hsl
          have HE2 := Lib.hid e2
          generalize Utf8.decode s i = dc at *
          clear e2 hsl
          go_wp2_with (go_at_call 73
                       refine (HIi.out _).mono ?_
                       rintro e w1 ⟨⟨v, rfl⟩, hb⟩
                       have HB2 := Lib.hid (HB1.out.trans (hb.mono (Nat.le_of_lt HSl.out)))
                       have HT2 := Lib.hid ((hb.block _ HSl.out).trans HT1.out)
                       clear hb)
          · go_ret
            exact ⟨⟨_, rfl, fun h => by omega⟩, HB2.out⟩
          · go_roundg (s.size - (i + dc.2))
            case measure => omega
            case rel =>
              refine ⟨i + dc.2, by omega, HT2.out, HB2.out, fun j hj h => ?_⟩
              by_cases e : j < i
              · exact HN.out j hj e
              · exact HE2.out j hj (by omega) h
      · have hnx := fun ty => Lib.run_next_end_at (P := Tryd.prog) wr w.heap.size s i ty HT.out hlt
        go_wp2
        go_ret
        exact ⟨⟨_, rfl, fun _ => any_bl (fun j hj => HN.out j hj (by omega))⟩, HB.out⟩
/-- ContainsAny among the blanks: where it tells of none there is none. -/
theorem cContainsAny (s : ByteArray) (hs : s.size ≤ maxLen) (w : World) :
    Calls Tryd.prog 35 #[.string s, .string ⟨#[32, 9]⟩] w fun e w' => (∃ b : Bool, e = .returned (.bool b) ∧ (b = false → noBl s)) ∧ Below w.heap.size w w' := by
  have HI := Lib.hid (fun w => cIndexAny s hs w)
  go_enter Tryd.func35, Tryd.ntmps35
  go_wp2_with (go_at_call 59; refine (HI.out _).mono ?_; rintro e w1 ⟨⟨v, rfl, hv⟩, hb⟩; have HV := Lib.hid hv; clear hv)
  go_ret
  exact ⟨⟨_, rfl, fun h => HV.out (by simpa using h)⟩, hb⟩
end Go.Proofs.YtfcbpehgkpmniaaDoor
