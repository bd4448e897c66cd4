/- Walk: the statement on a stack that is none. -/
import Derived.Test.YtpgkhhchpojlaaaDoorMn
import Derived.Test.YtpgkhhchpojlaaaDoorMi
import Derived.Test.YtpgkhhchpojlaaaDoorLb
import Derived.Deep.RegionHeld3
namespace Go.Proofs.YtpgkhhchpojlaaaDoor
open Go.RowKit Go.Maps Go.WideMaps

def dCs (d : Dd) (v v2 : Value) : Array Value := #[.int .i64 d.what, .string d.name, .string d.text, v, v2, .int .i64 d.n]
set_option maxRecDepth 100000 in
set_option maxHeartbeats 12000000 in
/-- SourceNothing. -/
theorem lNothing {N : World → Option Addr → Prop} (M : NMeth N) (hN0 : ∀ w, N w none) (hN1 : ∀ w z, Blk w z 50 #[.slice none 0 0] → N w (some ⟨z, 0, none⟩))
    (hS : ∀ w : World, Calls Tryd.prog 8 #[] w fun e w' => e = .returned (.bool true) ∧ Below w.heap.size w w')
    (d : Dd) (A A2 : Option Addr) (c c2 : Nat) (w : World) (hv : LnsAt (fun k => k < w.heap.size) w (.slice A d.lines.length c) d.lines) (hv2 : SsAt (fun k => k < w.heap.size) w (.slice A2 d.args.length c2) d.args) (hz1 : d.name.size ≤ 140737488351232) (hz2 : d.text.size ≤ 140737488351232) (hz3 : d.lines.length ≤ 10000000000000) (hz4 : d.args.length * 16 ≤ 140737488355328)
    (hwn : -9223372036854775808 ≤ d.n ∧ d.n ≤ 9223372036854775807) (hww : -9223372036854775808 ≤ d.what ∧ d.what ≤ 9223372036854775807) :
    Calls Tryd.prog 6 #[ddV d A d.lines.length c A2 d.args.length c2] w fun e w' => e = .returned (.bool true) ∧ Below w.heap.size w w' := by
  have HS := Lib.hid hS
  have hdb := Blk.new w 33 (dCs d (.slice A d.lines.length c) (.slice A2 d.args.length c2))
  have x0 := hdb.cell 0
  have x1 := hdb.cell 1
  have x2 := hdb.cell 2
  have x3 := hdb.cell 3
  have x4 := hdb.cell 4
  have x5 := hdb.cell 5
  unfold dCs at x0 x1 x2 x3 x4 x5
  simp only [List.getElem?_toArray, List.getElem?_cons_zero, List.getElem?_cons_succ] at x0 x1 x2 x3 x4 x5
  have hbA : Below w.heap.size w ((w.alloc (.cells (dCs d (.slice A d.lines.length c) (.slice A2 d.args.length c2)) 33)).alloc (.cells (dCs d (.slice A d.lines.length c) (.slice A2 d.args.length c2)) 33)) := ((Below.refl _ _).alloc (Nat.le_refl _) _).alloc (by simp) _
  have hsl := Blk.new (w.alloc (.cells (dCs d (.slice A d.lines.length c) (.slice A2 d.args.length c2)) 33)) 33 (dCs d (.slice A d.lines.length c) (.slice A2 d.args.length c2))
  have HBig := Lib.hid (lBig2 (.slice (some ⟨(w.alloc (.cells (dCs d (.slice A d.lines.length c) (.slice A2 d.args.length c2)) 33)).heap.size, 0, none⟩) 1 1) [d] _ ⟨_, 1, rfl, Nat.le_refl _, by unfold maxLen; omega, fun _ => ⟨_, 0, rfl, hsl.lt, fun i y hy => by
    have hi0 : i = 0 := by
      have := (List.getElem?_eq_some_iff.1 hy).1
      change i < 1 at this
      omega
    subst hi0
    have hyd : y = d := by
      change some d = some y at hy
      injection hy with hy
      exact hy.symm
    subst hyd
    exact ⟨hsl.cell 0, hsl.cell 1, hsl.cell 2, ⟨_, hsl.cell 3, hv.stay (Kept.of_below hbA (fun _ h => h)) (fun k hk => Nat.lt_of_lt_of_le hk hbA.size)⟩, ⟨_, hsl.cell 4, hv2.stay (Kept.of_below hbA (fun _ h => h)) (fun k hk => Nat.lt_of_lt_of_le hk hbA.size)⟩, hsl.cell 5, hz1, hz2, hz3, hz4, hwn, hww⟩⟩⟩)
  have HBA := Lib.hid hbA
  rw [show (w.alloc (.cells (dCs d (.slice A d.lines.length c) (.slice A2 d.args.length c2)) 33)).heap.size = w.heap.size + 1 by simp] at HBig
  unfold dCs at HBig
  obtain ⟨m, hm, hy⟩ := u64_mod d.what 8 (by omega) (by omega)
  have hy' : wrap64 ((IntKind.u64.wrap d.what).tmod 8) = (m : Int) := hy
  have HDb := Lib.hid (hdb.alloc (.cells (dCs d (.slice A d.lines.length c) (.slice A2 d.args.length c2)) 33))
  have HV := Lib.hid hv
  have HV2 := Lib.hid hv2
  clear hsl hdb hbA hy hv hv2
  unfold ddV
  go_enter Tryd.func6, Tryd.ntmps6
  go_wp2_with (first
    | (go_at_call 7; refine HBig.out.mono ?_; rintro e w1 ⟨⟨b, rfl, hf⟩, hb1⟩; have HF := Lib.hid hf; have hd1 := Lib.hid (HDb.out.below hb1 HDb.out.lt); have c0 : w1.cell? ⟨w.heap.size, 0, none⟩ = some (.int .i64 d.what) := hd1.out.cell 0; have f0 := hd1.out.frozen 0; clear hf)
    | (go_at_call 8; refine (HS.out _).mono ?_; rintro e w2 ⟨rfl, hb2⟩))
  · go_ret
    exact ⟨rfl, HBA.out.trans ((ntrans hb1 hb2).mono HBA.out.size)⟩
  · have hb1size := hb1.size
    obtain ⟨w5, h5⟩ : ∃ w5, w5 = (((w1.setCell ⟨w.heap.size, 0, none⟩ (.int .i64 (m : Nat))).alloc (.cells #[.slice none 0 0] 50)).alloc (.cells #[.pointer none, .pointer (some ⟨w1.heap.size, 0, none⟩)] 25)) := ⟨_, rfl⟩
    have hsz : (w1.setCell ⟨w.heap.size, 0, none⟩ (.int .i64 (m : Nat))).heap.size = w1.heap.size := by simp [World.setCell]
    have hD5 : Blk w5 w.heap.size 33 (dCs { d with what := m } (.slice A d.lines.length c) (.slice A2 d.args.length c2)) := by rw [h5]; exact ((blk_set hd1.out (.int .i64 (m : Nat))).alloc _).alloc _
    have hZ5 : Blk w5 w1.heap.size 50 #[.slice none 0 0] := by
      have := Blk.new (w1.setCell ⟨w.heap.size, 0, none⟩ (.int .i64 (m : Nat))) 50 #[.slice none 0 0]
      rw [hsz] at this
      rw [h5]; exact this.alloc _
    have hQ5 : Blk w5 (w1.heap.size + 1) 25 #[.pointer none, .pointer (some ⟨w1.heap.size, 0, none⟩)] := by
      have := Blk.new ((w1.setCell ⟨w.heap.size, 0, none⟩ (.int .i64 (m : Nat))).alloc (.cells #[.slice none 0 0] 50)) 25 #[.pointer none, .pointer (some ⟨w1.heap.size, 0, none⟩)]
      rw [show ((w1.setCell ⟨w.heap.size, 0, none⟩ (.int .i64 (m : Nat))).alloc (.cells #[.slice none 0 0] 50)).heap.size = w1.heap.size + 1 by simp [hsz]] at this
      rw [h5]; exact this
    have hB1 : Below w.heap.size w w1 := HBA.out.trans (hb1.mono HBA.out.size)
    have hB5 : Below w.heap.size w w5 := by
      rw [h5]
      exact ((hB1.trans ((turn_set w1 w.heap.size 0 (.int .i64 (m : Nat))).below (Below.refl _ _) hB1.size (fun i e => by rw [e]; exact Nat.le_refl _))).alloc (by rw [hsz]; exact hB1.size) _).alloc (by simp [hsz]; have := hB1.size; omega) _
    rw [← h5]
    clear h5 hsz hd1 c0 f0 x0 x1 x2 x3 x4 x5
    have HD5 := Lib.hid hD5
    have HZ5 := Lib.hid hZ5
    have HQ5 := Lib.hid hQ5
    have HB5 := Lib.hid hB5
    have hmw : 0 ≤ (m : Int) ∧ (m : Int) < 8 := by omega
    clear hD5 hZ5 hQ5 hB1 hB5 HBA HDb hb1 HBig hy'
    have hbf : b = false := by first | assumption | (simpa using (by assumption : ¬ b = true))
    subst hbf
    have htx : d.text.size ≤ 1000000 := by
      have := (HF.out rfl).2 d (by simp)
      omega
    clear HF
    have hCell : ∀ w', Below w5.heap.size w5 w' → w'.cell? ⟨w.heap.size, 0, none⟩ = some (.int .i64 m) ∧ w'.cell? ⟨w.heap.size, 1, none⟩ = some (.string d.name) ∧ w'.cell? ⟨w.heap.size, 2, none⟩ = some (.string d.text) ∧ w'.cell? ⟨w.heap.size, 3, none⟩ = some (.slice A d.lines.length c) ∧ w'.cell? ⟨w.heap.size, 4, none⟩ = some (.slice A2 d.args.length c2) ∧ w'.cell? ⟨w.heap.size, 5, none⟩ = some (.int .i64 d.n) := fun w' hw => by
      have hD := HD5.out.below hw HD5.out.lt
      exact ⟨hD.cell 0, hD.cell 1, hD.cell 2, hD.cell 3, hD.cell 4, hD.cell 5⟩
    have HCell := Lib.hid hCell
    clear hCell
    have HDo : Hid (∀ (p : Option Addr) w', Below w5.heap.size w5 w' → N w' p → Calls Tryd.prog 12 #[.pointer p, .agg #[.int .i64 (m : Nat), .string d.name, .string d.text, .slice A d.lines.length c, .slice A2 d.args.length c2, .int .i64 d.n]] w' fun x w2 => NOut x ∧ Below w'.heap.size w' w2) := Lib.hid (fun p w' hw hN =>
      have h2 := HB5.out.trans (hw.mono HB5.out.size)
      zDo M { d with what := m } hmw (fun k => k < w.heap.size) _ _ (HV.out.stay (Kept.of_below h2 (fun _ h => h)) (fun _ h => h)) (HV2.out.stay (Kept.of_below h2 (fun _ h => h)) (fun _ h => h)) (fun k hk => Nat.lt_of_lt_of_le hk h2.size) (Nat.le_trans hz1 (by decide)) htx hz3 hz4 hwn hN)
    have HPt : Hid (∀ i : Nat, i < 2 → ∃ p, (∀ w', Below w5.heap.size w5 w' → w'.cell? ⟨w1.heap.size + 1, i, none⟩ = some (.pointer p)) ∧ ∀ w', Below w5.heap.size w5 w' → N w' p) := Lib.hid (fun i hi => by
      have hc : i = 0 ∨ i = 1 := by omega
      rcases hc with rfl | rfl
      · exact ⟨none, fun w' hw => (HQ5.out.below hw HQ5.out.lt).cell 0, fun w' _ => hN0 w'⟩
      · exact ⟨_, fun w' hw => (HQ5.out.below hw HQ5.out.lt).cell 1, fun w' hw => hN1 w' _ (HZ5.out.below hw HZ5.out.lt)⟩)
    go_loopw [5] (fun v5 wr => ∃ i : Nat, i ≤ 2 ∧ v5 = .int .i64 i ∧ Below w5.heap.size w5 wr) (fun v5 _ => 2 - (intOf v5).toNat)
    case atStart => exact ⟨0, Nat.zero_le _, rfl, Below.refl _ _⟩
    case round =>
      obtain ⟨i, hi, rfl, hb⟩ := hrel
      have HB := Lib.hid hb
      clear hb
      by_cases hi2 : i < 2
      · obtain ⟨p, hp, hn⟩ := HPt.out i hi2
        have HP := Lib.hid hp
        have HN := Lib.hid hn
        clear hp hn
        go_wp2_with fail
        go_cut [6, 7] from 26 to 34 (fun v6 v7 wx => ∃ q A6 c6, v6 = .pointer (some ⟨q, 0, none⟩) ∧ v7 = .int .i64 1 ∧ (∀ (K : Nat → Prop) (w : World), BxsAt K w (.slice A6 0 c6) []) ∧ Blk wx q 36 #[.string ⟨#[]⟩, .bool false, .int .i64 0, .int .i64 0, .slice A6 0 c6] ∧ Below w5.heap.size w5 wx)
        case first =>
          go_region_held3 (fun w' => w'.cell? ⟨w1.heap.size + 1, i, none⟩ = some (.pointer p) ∧ w'.cell? ⟨w.heap.size, 0, none⟩ = some (.int .i64 m) ∧ w'.cell? ⟨w.heap.size, 1, none⟩ = some (.string d.name) ∧ w'.cell? ⟨w.heap.size, 2, none⟩ = some (.string d.text) ∧ w'.cell? ⟨w.heap.size, 3, none⟩ = some (.slice A d.lines.length c) ∧ w'.cell? ⟨w.heap.size, 4, none⟩ = some (.slice A2 d.args.length c2) ∧ w'.cell? ⟨w.heap.size, 5, none⟩ = some (.int .i64 d.n))
            (first | exact ⟨HP.out _ HB.out.drew, HCell.out _ HB.out.drew⟩ | exact ⟨HP.out _ (HB.out.drew.alloc HB.out.drew.size _), HCell.out _ (HB.out.drew.alloc HB.out.drew.size _)⟩ | exact ⟨HP.out _ HB6.out, HCell.out _ HB6.out⟩ | exact ⟨HP.out _ (HB6.out.alloc HB6.out.size _), HCell.out _ (HB6.out.alloc HB6.out.size _)⟩ | (have hz := ((res_set HR6.out (.string ⟨#[]⟩) (.bool false) (.int .i64 0) (.int .i64 0) (.slice A6 0 c6)).1.below HB6.out HB6.out.size (fun i e => by rw [e]; exact HB.out.size)); exact ⟨HP.out _ hz, HCell.out _ hz⟩))
            (first
              | (go_at_call 12; refine (HDo.out p _ (HB.out.drew.alloc HB.out.drew.size _) (HN.out _ (HB.out.drew.alloc HB.out.drew.size _))).mono ?_; rintro e w6 ⟨⟨A6, c6, rfl, hx6⟩, hb6⟩; have HX6 := Lib.hid hx6; have HK6 := Lib.hid hb6; have HB6 := Lib.hid ((HB.out.drew.alloc HB.out.drew.size _).trans (hb6.mono (HB.out.drew.alloc HB.out.drew.size _).size)); have hr6 : Blk w6 wr.heap.size 36 #[.string ⟨#[]⟩, .bool false, .int .i64 0, .int .i64 0, .slice none 0 0] := (Turn.of_below (S := fun _ => False) hb6).blk (blk_at2 (by simp)) id; have hf0 := hr6.frozen 0; have hf1 := hr6.frozen 1; have hf2 := hr6.frozen 2; have hf3 := hr6.frozen 3; have hf4 := hr6.frozen 4; have d0 := hr6.cell 0; have d1 := hr6.cell 1; have d2 := hr6.cell 2; have d3 := hr6.cell 3; have d4 := hr6.cell 4; simp only [List.getElem?_toArray, List.getElem?_cons_zero, List.getElem?_cons_succ] at d0 d1 d2 d3 d4; have HR6 := Lib.hid hr6; clear hb6 hx6 hr6)
              | (go_at_call 12; refine (HDo.out p _ HB.out.drew (HN.out _ HB.out.drew)).mono ?_; rintro e w6 ⟨⟨A6, c6, rfl, hx6⟩, hb6⟩; have HX6 := Lib.hid hx6; have HB6 := Lib.hid (HB.out.drew.trans (hb6.mono HB.out.drew.size)); clear hb6 hx6))
          all_goals go_wp2
          all_goals go_meet
          all_goals first
            | (with_reducible exact ⟨w6.heap.size, A6, c6, rfl, rfl, HX6.out, Blk.new w6 36 _, HB6.out.alloc HB6.out.size _⟩)
            | exact ⟨wr.heap.size, A6, c6, rfl, rfl, HX6.out, (res_set HR6.out (.string ⟨#[]⟩) (.bool false) (.int .i64 0) (.int .i64 0) (.slice A6 0 c6)).2, (res_set HR6.out (.string ⟨#[]⟩) (.bool false) (.int .i64 0) (.int .i64 0) (.slice A6 0 c6)).1.below HB6.out HB6.out.size (fun i e => by rw [e]; exact HB.out.size)⟩
        case rest =>
          obtain ⟨q, A6, c6, rfl, rfl, hx6, hbk, hb6⟩ := hcut
          have HB6 := Lib.hid hb6
          have x0 := hbk.cell 0
          have x1 := hbk.cell 1
          have x2 := hbk.cell 2
          have x3 := hbk.cell 3
          have x4 := hbk.cell 4
          simp only [List.getElem?_toArray, List.getElem?_cons_zero, List.getElem?_cons_succ] at x0 x1 x2 x3 x4
          have HLi : Hid (∀ w', Calls Tryd.prog 19 #[.agg #[.string ⟨#[]⟩, .bool false, .int .i64 0, .int .i64 0, .slice A6 0 c6], .agg #[.string ⟨#[]⟩, .bool false, .int .i64 0, .int .i64 0, .slice none 0 0]] w' fun e w2 => e = .returned (.bool true) ∧ Below w'.heap.size w' w2) := Lib.hid (fun w' => lLine zLn (fun _ => False) (fun _ => False) (.slice A6 0 c6) (.slice none 0 0) w' (hx6 _ _) (no_boxes _ _) (fun _ h => h.elim) (fun _ h => h.elim) (by decide) (by decide))
          have HM := Lib.hid M
          clear hbk hx6 hb6 M
          go_wp2_with (first
            | (go_at_call 19; refine (HLi.out _).mono ?_; rintro e w7 ⟨rfl, hb7⟩; have HB7 := Lib.hid (HB6.out.trans (hb7.mono HB6.out.size)); have q7 := HP.out _ HB7.out; clear hb7)
            | (go_at_call 13; refine (HM.out.depth (HN.out _ HB7.out)).mono ?_; rintro e w8 ⟨rfl, hb8⟩; have HB8 := Lib.hid (HB7.out.trans (hb8.mono HB7.out.size)); have q8 := HP.out _ HB8.out; clear hb8)
            | (go_at_call 20; refine (HM.out.line (HN.out _ HB8.out)).mono ?_; rintro e w9 ⟨rfl, hb9⟩; have HB9 := Lib.hid (HB8.out.trans (hb9.mono HB8.out.size)); have q9 := HP.out _ HB9.out; clear hb9)
            | (go_at_call 21; refine (HM.out.name (HN.out _ HB9.out)).mono ?_; rintro e w10 ⟨rfl, hb10⟩; have HB10 := Lib.hid (HB9.out.trans (hb10.mono HB9.out.size)); have q10 := HP.out _ HB10.out; clear hb10)
            | (go_at_call 22; refine (HM.out.args (HN.out _ HB10.out)).mono ?_; rintro e w11 ⟨⟨A11, c11, rfl⟩, hb11⟩; have HB11 := Lib.hid (HB10.out.trans (hb11.mono HB10.out.size)); have q11 := HP.out _ HB11.out; clear hb11)
            | (go_at_call 23; refine (HM.out.copy (HN.out _ HB11.out)).mono ?_; rintro e w12 ⟨rfl, hb12⟩; have HB12 := Lib.hid (HB11.out.trans (hb12.mono HB11.out.size)); clear hb12))
          go_roundw
          case rel => exact ⟨i + 1, by omega, by go_num, HB12.out⟩
          case measure => simp [intOf]; omega
      · go_wp2_with (go_at_call 8; refine (HS.out _).mono ?_; rintro e w7 ⟨rfl, hb7⟩)
        go_ret
        exact ⟨rfl, HB5.out.trans ((ntrans HB.out hb7).mono HB5.out.size)⟩
end Go.Proofs.YtpgkhhchpojlaaaDoor
