/- Walk: the statement on the order of a file's lines. -/
import Derived.Test.YtpgkhhchpojlaaaDoorMj
import Derived.Test.YtpgkhhchpojlaaaDoorLb
namespace Go.Proofs.YtpgkhhchpojlaaaDoor
open Go.RowKit Go.Maps Go.WideMaps

section
variable {C : CStk}
structure RoundO (C : CStk) (w : World) (K3 : Nat → Prop) (v : Value) (T : List ByteArray) (s : ByteArray) (a : Nat) (wr : World) (g p off i : Nat) (d : Dd) (Al : Option Addr) (cl : Nat) (As : Option Addr) (cs : Nat) : Prop where
  cells : wr.cell? ⟨p, off + i * 6, none⟩ = some (.int .i64 d.what) ∧ wr.cell? ⟨p, off + i * 6 + 1, none⟩ = some (.string d.name) ∧ wr.cell? ⟨p, off + i * 6 + 2, none⟩ = some (.string d.text) ∧ wr.cell? ⟨p, off + i * 6 + 3, none⟩ = some (.slice Al d.lines.length cl) ∧ wr.cell? ⟨p, off + i * 6 + 4, none⟩ = some (.slice As d.args.length cs) ∧ wr.cell? ⟨p, off + i * 6 + 5, none⟩ = some (.int .i64 d.n)
  do_ : 0 ≤ d.what ∧ d.what ≤ 2 → ∀ w1, OO C w K3 v T g w1 [oF s a] → Calls Tryd.prog 12 #[.pointer (some ⟨g, 0, none⟩), .agg #[.int .i64 d.what, .string d.name, .string d.text, .slice Al d.lines.length cl, .slice As d.args.length cs, .int .i64 d.n]] w1 fun e w' => ∃ er : Int, (∃ l : Ln, ∃ A n c, e = .returned (.tuple #[.agg #[.string l.text, .bool l.made, .int .i64 l.up, .int .i64 l.down, .slice A n c], .int .i64 er])) ∧ ((er = 0 ∧ ∃ f, OO C w K3 v T g w' [oF s a, f]) ∨ (er ≠ 0 ∧ OO C w K3 v T g w' [oF s a]))
theorem roundO_of (M : CMeth C) {w wr : World} {K3 : Nat → Prop} {v : Value} {T : List ByteArray} {s : ByteArray} {a g p off i : Nat} {d : Dd} (hO : OO C w K3 v T g wr [oF s a]) (hd : ddR (fun k => k < w.heap.size) w p (off + i * 6) d) (hp : p < w.heap.size) (hz : d.text.size ≤ 1000000) :
    ∃ Al cl As cs, RoundO C w K3 v T s a wr g p off i d Al cl As cs := by
  obtain ⟨v3, q3, Al, cl, rfl, a1, a2, a3⟩ := hd.c3
  obtain ⟨v4, q4, As, cs, rfl, b1, b2, b3⟩ := hd.c4
  have hl3 : LnsAt (fun k => k < w.heap.size) w (.slice Al d.lines.length cl) d.lines := ⟨Al, cl, rfl, a1, a2, a3⟩
  have hl4 : SsAt (fun k => k < w.heap.size) w (.slice As d.args.length cs) d.args := ⟨As, cs, rfl, b1, b2, b3⟩
  have hb := hO.below
  have c : ∀ {o : Nat} {v : Value}, w.cell? ⟨p, o, none⟩ = some v → wr.cell? ⟨p, o, none⟩ = some v := fun hc => (Kept.of_below (K := fun k => k < w.heap.size) hb (fun i hi => hi)).cell hp hc
  exact ⟨Al, cl, As, cs, ⟨c hd.c0, c hd.c1, c hd.c2, c q3, c q4, c hd.c5⟩, fun hw w1 h => oDo M d hw hl3 hl4 hd.z1 hz hd.z3 hd.z4 hd.wn h⟩
set_option maxRecDepth 100000 in
set_option maxHeartbeats 4000000 in
/-- SourceOrder. -/
theorem lOrder (M : CMeth C) (hS : ∀ w : World, Calls Tryd.prog 8 #[] w fun e w' => e = .returned (.bool true) ∧ Below w.heap.size w w') (s : ByteArray) (v : Value) (ds : List Dd) (hs : s.size ≤ 140737488351232) (w : World) (h : DdsAt (fun k => k < w.heap.size) w v ds) :
    Calls Tryd.prog 3 #[.string s, v] w fun e w' => e = .returned (.bool true) ∧ Below w.heap.size w w' := by
  have HBig := Lib.hid (lBig2 v ds w h)
  obtain ⟨A, cap, rfl, a1, a2, a3⟩ := h
  have HA := Lib.hid a3
  have HS := Lib.hid hS
  have HNew := Lib.hid (fun w => M.new w)
  clear a3 hS
  unfold maxLen at a2
  by_cases hb : s.size ≤ 3000
  · have hbi : ¬ (3000 : Int) < (s.size : Nat) := by omega
    have HLn := Lib.hid (fun w => nLines s (by omega) w)
    have HFi := Lib.hid (fun (K3 : Nat → Prop) (v : Value) (g : Nat) (w1 : World) (h : OO C w K3 v (lnsT s) g w1 []) => oFile M (s := s) (by omega) h)
    have hlen : rdB s = true → (lnsT s).length ≤ 20000 := fun h => by
      unfold rdB at h
      rw [Bool.and_eq_true] at h
      exact of_decide_eq_true h.2
    by_cases hrd : rdB s = true
    · rw [if_pos hrd, if_pos hrd] at HFi
      have hlen2 := hlen hrd
      clear hlen hrd
      go_enter Tryd.func3, Tryd.ntmps3
      go_wp2_with (first
        | (go_at_call 7; refine HBig.out.mono ?_; rintro e w1 ⟨⟨b, rfl, hf⟩, hb1⟩; have HF := Lib.hid hf; have HB1 := Lib.hid hb1; clear hf hb1 HBig)
        | (go_at_call 8; refine (HS.out _).mono ?_; rintro e w9 ⟨rfl, hb9⟩)
        | (go_at_call 9; refine (HNew.out _).mono ?_; rintro e w3 ⟨g, rfl, hc2⟩; have HC2 := Lib.hid hc2; clear hc2)
        | (go_at_call 10; refine (HLn.out _).mono ?_; rintro e w4 ⟨v2, rfl, hv2, hb4⟩; obtain ⟨A2, c2, rfl, _⟩ := id hv2; obtain ⟨K3, ho⟩ := oNew M.toCBase HB1.out HC2.out hv2 hb4; have HO := Lib.hid ho; clear hv2 hb4 ho)
        | (go_at_call 11; refine (HFi.out _ _ _ _ HO.out).mono ?_; rintro e w5 ⟨rfl, ho5⟩; have HO5 := Lib.hid ho5; clear ho5))
      · go_ret
        exact ⟨rfl, HB1.out.trans (hb9.mono HB1.out.size)⟩
      · have HBf : Hid (b = false) := Lib.hid (by first | assumption | (simp only [Bool.not_eq_true] at *; assumption))
        clear HO HC2 HFi HLn HNew
        go_loopw [8, 9] (fun v8 v9 wr => ∃ i a : Nat, i ≤ ds.length ∧ a ≤ (lnsT s).length ∧ v9 = .int .i64 i ∧ v8 = .int .i64 a ∧ OO C w K3 (.slice A2 (lnsT s).length c2) (lnsT s) g wr [oF s a]) (fun _ v9 _ => ds.length - (intOf v9).toNat)
        case atStart => exact ⟨0, 0, Nat.zero_le _, Nat.zero_le _, rfl, rfl, HO5.out⟩
        case round =>
          obtain ⟨i, a, hi, ha, rfl, rfl, hO⟩ := hrel
          have HO := Lib.hid hO
          clear hO HO5
          have hcase : (i < ds.length ∧ a < (lnsT s).length) ∨ ((i < ds.length ∧ ¬ a < (lnsT s).length) ∨ ¬ i < ds.length) := by omega
          rcases hcase with ⟨hlt, hla⟩ | hex
          · obtain ⟨p, off, rfl, hp, hr⟩ := HA.out (by omega)
            have hx := List.getElem?_eq_getElem hlt
            have hd := hr i _ hx
            have hfew := (HF.out HBf.out).2 _ (List.mem_of_getElem? hx)
            generalize ds[i] = d at *
            obtain ⟨Al, cl, As, cs, hR⟩ := roundO_of M HO.out hd hp (by omega)
            have HR := Lib.hid hR
            obtain ⟨k0, k1, k2, k3, k4, k5⟩ := hR.cells
            clear hR hd hx hr
            by_cases hg : 0 ≤ d.what ∧ d.what ≤ 2 ∧ d.text.size ≤ 200 ∧ d.lines.length ≤ 50
            · have n1 : ¬ d.what < 0 := by omega
              have n2 : ¬ 2 < d.what := by omega
              have n3 : ¬ (200 : Int) < (d.text.size : Nat) := by omega
              have n4 : ¬ (50 : Int) < (d.lines.length : Nat) := by omega
              have HDo := Lib.hid (fun (o : Obj) => HR.out.do_ ⟨hg.1, hg.2.1⟩ _ (HO.out.on M.toCBase ((Below.refl wr.heap.size wr).alloc (Nat.le_refl _) o)))
              clear HR hg hfew
              go_wp2_with (go_at_call 12; refine (HDo.out _).mono ?_; rintro e w5 ⟨er, ⟨l, A5, n5, c5, rfl⟩, hr5⟩; have HR5 := Lib.hid hr5; clear hr5)
              · have h0 : er ≠ 0 := by first | assumption | (simp at *; assumption)
                go_roundw
                case rel =>
                  refine ⟨i + 1, a, by omega, ha, by go_num, rfl, ?_⟩
                  rcases HR5.out with ⟨h1, _⟩ | ⟨_, h1⟩
                  · exact absurd h1 h0
                  · exact h1.on M.toCBase ((Below.refl _ _).alloc (Nat.le_refl _) _)
                case measure => simp [intOf]; omega
              · have h0 : er = 0 := by first | assumption | (simp at *; assumption)
                subst h0
                obtain ⟨f, hO6⟩ : ∃ f, OO C w K3 (.slice A2 (lnsT s).length c2) (lnsT s) g w5 [oF s a, f] := by
                  rcases HR5.out with ⟨_, h1⟩ | ⟨h1, _⟩
                  · exact h1
                  · exact absurd rfl h1
                have HO6 := Lib.hid (fun (o : Obj) => hO6.on M.toCBase ((Below.refl _ _).alloc (Nat.le_refl _) o))
                clear hO6 HR5 HO HDo
                obtain ⟨wo, rfl⟩ : ∃ wo : World, wo = wr := ⟨_, rfl⟩
                go_loopg [8] (f.lines.length - f.pos + 2) (fun m v8 wi => ∃ b : Nat, b ≤ (lnsT s).length ∧ v8 = .int .i64 b ∧ ((b < (lnsT s).length ∧ ∃ f2 : Fr, m = f2.lines.length - f2.pos + 2 ∧ OO C w K3 (.slice A2 (lnsT s).length c2) (lnsT s) g wi [oF s b, f2]) ∨ (m = 0 ∧ OO C w K3 (.slice A2 (lnsT s).length c2) (lnsT s) g wi [oF s b])))
                case atStart => exact ⟨a, ha, rfl, .inl ⟨hla, f, rfl, HO6.out _⟩⟩
                case round =>
                  clear HO6
                  obtain ⟨b, hb, rfl, hcase⟩ := hrel
                  rcases hcase with ⟨hlb, f2, hm, hO2⟩ | ⟨hm, hO2⟩
                  · have HO2 := Lib.hid hO2
                    clear hO2
                    have ht := List.getElem?_eq_getElem hlb
                    generalize (lnsT s)[b] = t at *
                    have HD := Lib.hid (fun (w1 : World) (h : OO C w K3 (.slice A2 (lnsT s).length c2) (lnsT s) g w1 [oF s b, f2]) => oDepth M h)
                    have HAl := Lib.hid (fun (w1 : World) (fs : List Fr) (h : OO C w K3 (.slice A2 (lnsT s).length c2) (lnsT s) g w1 fs) (o : Obj) => h.on M.toCBase ((Below.refl w1.heap.size w1).alloc (Nat.le_refl _) o))
                    by_cases hf2 : f2.live = true
                    · have HNx := Lib.hid (fun (w1 : World) (h : OO C w K3 (.slice A2 (lnsT s).length c2) (lnsT s) g w1 [oF s b, f2]) => oNext2 M hf2 h)
                      have HD2 := Lib.hid (fun (w1 : World) (h : OO C w K3 (.slice A2 (lnsT s).length c2) (lnsT s) g w1 [oF s b, f2.next]) => oDepth M h)
                      have hpos : f2.pos < f2.lines.length := by simpa [Fr.live, Fr.over] using hf2
                      have hmes : f2.next.lines.length - f2.next.pos + 2 < gk := by
                        rw [hm]
                        show f2.lines.length - (f2.pos + 1) + 2 < _
                        omega
                      clear hpos hm ht hf2
                      generalize f2.next = f3 at *
                      go_wp2_with (first
                        | (go_at_call 13; refine (HD.out _ HO2.out).mono ?_; rintro e w1 ⟨rfl, h1, _⟩; have HO3 := Lib.hid h1; clear h1 HO2)
                        | (go_at_call 13; refine (HD.out _ HO3.out).mono ?_; rintro e w2 ⟨rfl, h1, _⟩; have HO4 := Lib.hid h1; clear h1 HO3)
                        | (go_at_call 14; refine (HNx.out _ HO4.out).mono ?_; rintro e w3 ⟨⟨l6, A6, n6, c6, rfl⟩, h1⟩; have HO5 := Lib.hid (HAl.out _ _ h1 (.cells #[.string l6.text, .bool l6.made, .int .i64 l6.up, .int .i64 l6.down, .slice A6 n6 c6] 36)); clear h1 HO4)
                        | (go_at_call 13; refine (HD2.out _ HO5.out).mono ?_; rintro e w4 ⟨rfl, h1, _⟩; have HO7 := Lib.hid h1; clear h1 HO5))
                      go_roundg (f3.lines.length - f3.pos + 2)
                      case rel => exact ⟨b, hb, rfl, .inl ⟨hlb, f3, rfl, HO7.out⟩⟩
                      case measure => exact hmes
                    · have hf3 : f2.live = false := by simpa using hf2
                      have HNx := Lib.hid (fun (w1 : World) (h : OO C w K3 (.slice A2 (lnsT s).length c2) (lnsT s) g w1 [oF s b, f2]) => oNext3 M ht hf3 h)
                      have HD2 := Lib.hid (fun (w1 : World) (h : OO C w K3 (.slice A2 (lnsT s).length c2) (lnsT s) g w1 [oF s (b + 1)]) => oDepth M h)
                      have hty : (t.toList == t.toList) = true := by simp
                      have hmes : 0 < gk := by omega
                      obtain ⟨q, oq, rfl, _, _⟩ := HO2.out.cell ht
                      have HT := Lib.hid ht
                      clear hm ht hf2 hf3
                      go_wp2_with (first
                        | (go_at_call 13; refine (HD.out _ HO2.out).mono ?_; rintro e w1 ⟨rfl, h1, _⟩; have HO3 := Lib.hid h1; clear h1 HO2)
                        | (go_at_call 13; refine (HD.out _ HO3.out).mono ?_; rintro e w2 ⟨rfl, h1, _⟩; have HO4 := Lib.hid h1; clear h1 HO3)
                        | (go_at_call 14; refine (HNx.out _ HO4.out).mono ?_; rintro e w3 ⟨⟨A6, n6, c6, rfl⟩, h1⟩; have HO5 := Lib.hid (HAl.out _ _ h1 (.cells #[.string t, .bool false, .int .i64 0, .int .i64 0, .slice A6 n6 c6] 36)); have HB5 := Lib.hid (Blk.new w3 36 #[.string t, .bool false, .int .i64 0, .int .i64 0, .slice A6 n6 c6]); clear h1 HO4)
                        | (go_at_call 13; refine (HD2.out _ HO5.out).mono ?_; rintro e w4 ⟨rfl, h1, hb4⟩; have HO7 := Lib.hid h1; have q0 := ((Turn.of_below (S := fun _ => False) hb4).blk HB5.out id).cell 0; simp only [List.getElem?_toArray, List.getElem?_cons_zero] at q0; clear h1 HO5 hb4))
                      obtain ⟨q', oq', e', _, c0⟩ := HO7.out.cell HT.out
                      injection e' with e'
                      injection e' with e1 e2
                      subst e1 e2
                      go_quiet (fail)
                      go_wp2_with fail
                      go_roundg 0
                      case rel => exact ⟨b + 1, by omega, by go_num, .inr ⟨rfl, HO7.out.on M.toCBase (below_drewN (Below.refl _ _) _)⟩⟩
                      case measure => exact hmes
                  · have HD := Lib.hid (oDepth M hO2)
                    clear hO2
                    go_wp2_with (go_at_call 13; refine HD.out.mono ?_; rintro e w1 ⟨rfl, h1, _⟩; have HO3 := Lib.hid h1; clear h1)
                    go_roundw
                    case rel => exact ⟨i + 1, b, by omega, hb, by go_num, rfl, HO3.out⟩
                    case measure => simp [intOf]; omega
            · have hg4 : d.what < 0 ∨ (¬ d.what < 0 ∧ 2 < d.what) ∨ (¬ d.what < 0 ∧ ¬ 2 < d.what ∧ (200 : Int) < (d.text.size : Nat)) ∨ (¬ d.what < 0 ∧ ¬ 2 < d.what ∧ ¬ (200 : Int) < (d.text.size : Nat) ∧ (50 : Int) < (d.lines.length : Nat)) := by omega
              have HDo := Lib.hid (fun (o : Obj) => HO.out.on M.toCBase ((Below.refl wr.heap.size wr).alloc (Nat.le_refl _) o))
              clear HR hg hfew
              rcases hg4 with n1 | ⟨n1, n2⟩ | ⟨n1, n2, n3⟩ | ⟨n1, n2, n3, n4⟩
              all_goals
                go_wp2_with fail
                go_roundw
                case rel => exact ⟨i + 1, a, by omega, ha, by go_num, rfl, HDo.out _⟩
                case measure => simp [intOf]; omega
          · rcases hex with ⟨hlt, hla⟩ | hlt
            all_goals
              go_wp2_with fail
              go_loopw [8] (fun v8 wi => ∃ a : Nat, a ≤ (lnsT s).length ∧ v8 = .int .i64 a ∧ OO C w K3 (.slice A2 (lnsT s).length c2) (lnsT s) g wi [oF s a]) (fun v8 _ => (lnsT s).length - (intOf v8).toNat)
              case atStart => exact ⟨a, ha, rfl, HO.out⟩
              case round =>
                obtain ⟨b, hb, rfl, hO⟩ := hrel
                have HOb := Lib.hid hO
                clear hO HO
                by_cases hlb : b < (lnsT s).length
                · have ht := List.getElem?_eq_getElem hlb
                  have HNx := Lib.hid (oNext1 M ht HOb.out)
                  generalize (lnsT s)[b] = t at *
                  have HAl := Lib.hid (fun (w1 : World) (h : OO C w K3 (.slice A2 (lnsT s).length c2) (lnsT s) g w1 [oF s (b + 1)]) (o : Obj) => h.on M.toCBase ((Below.refl w1.heap.size w1).alloc (Nat.le_refl _) o))
                  have hty : (t.toList == t.toList) = true := by simp
                  obtain ⟨q, oq, rfl, _, _⟩ := HOb.out.cell ht
                  have HT := Lib.hid ht
                  clear ht
                  go_wp2_with (go_at_call 14; refine HNx.out.mono ?_; rintro e w6 ⟨⟨A6, n6, c6, rfl⟩, h6⟩; have H6 := Lib.hid (HAl.out _ h6 (.cells #[.string t, .bool false, .int .i64 0, .int .i64 0, .slice A6 n6 c6] 36)); have q0 := (Blk.new w6 36 #[.string t, .bool false, .int .i64 0, .int .i64 0, .slice A6 n6 c6]).cell 0; simp only [List.getElem?_toArray, List.getElem?_cons_zero] at q0; clear h6)
                  obtain ⟨q', oq', e', _, c0⟩ := H6.out.cell HT.out
                  injection e' with e'
                  injection e' with e1 e2
                  subst e1 e2
                  go_quiet (fail)
                  go_wp2_with fail
                  go_roundw
                  case rel => exact ⟨b + 1, by omega, by go_num, H6.out.on M.toCBase (below_drewN (Below.refl _ _) _)⟩
                  case measure => simp [intOf]; omega
                · have HNx := Lib.hid (oNext0 M (by omega) HOb.out)
                  go_wp2_with (first
                    | (go_at_call 14; refine HNx.out.mono ?_; rintro e w6 ⟨⟨A6, n6, c6, rfl⟩, h6⟩; have H6 := Lib.hid (h6.alloc h6.size (.cells #[.string ⟨#[]⟩, .bool false, .int .i64 0, .int .i64 0, .slice A6 n6 c6] 36)); clear h6)
                    | (go_at_call 8; refine (HS.out _).mono ?_; rintro e w9 ⟨rfl, hb9⟩))
                  go_ret
                  exact ⟨rfl, H6.out.trans (hb9.mono H6.out.size)⟩
    · have hrd' : rdB s = false := by simpa using hrd
      rw [hrd'] at HFi
      go_enter Tryd.func3, Tryd.ntmps3
      go_wp2_with (first
        | (go_at_call 7; refine HBig.out.mono ?_; rintro e w1 ⟨⟨b, rfl, hf⟩, hb1⟩; have HB1 := Lib.hid hb1; clear hf hb1 HBig)
        | (go_at_call 8; refine (HS.out _).mono ?_; rintro e w9 ⟨rfl, hb9⟩)
        | (go_at_call 9; refine (HNew.out _).mono ?_; rintro e w3 ⟨g, rfl, hc2⟩; have HC2 := Lib.hid hc2; clear hc2)
        | (go_at_call 10; refine (HLn.out _).mono ?_; rintro e w4 ⟨v2, rfl, hv2, hb4⟩; obtain ⟨A2, c2, rfl, _⟩ := id hv2; obtain ⟨K3, ho⟩ := oNew M.toCBase HB1.out HC2.out hv2 hb4; have HO := Lib.hid ho; clear hv2 hb4 ho)
        | (go_at_call 11; refine (HFi.out _ _ _ _ HO.out).mono ?_; rintro e w5 ⟨rfl, ho5⟩; have HO5 := Lib.hid ho5.below; clear ho5))
      · go_ret
        exact ⟨rfl, HB1.out.trans (hb9.mono HB1.out.size)⟩
      · go_ret
        exact ⟨rfl, HO5.out.trans (hb9.mono HO5.out.size)⟩
  · have hbi : (3000 : Int) < (s.size : Nat) := by omega
    go_enter Tryd.func3, Tryd.ntmps3
    go_wp2_with (go_at_call 8; refine (HS.out _).mono ?_; rintro e w9 ⟨rfl, hb9⟩)
    go_ret
    exact ⟨rfl, hb9⟩
end
end Go.Proofs.YtpgkhhchpojlaaaDoor
