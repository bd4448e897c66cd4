/- Walk: the statement on a store that is none. -/
import Derived.Test.YtbedddgfijpbcaaNm
import Derived.Test.YtbedddgfijpbcaaBa
import Derived.Test.YtbedddgfijpbcaaQu
import Derived.Deep.RegionHeld3
namespace Go.Proofs.Ytbedddgfijpbcaa
open Go.RowKit Go.Maps Go.WideMaps

def dCs (d : Dd) (v : Value) : Array Value := #[.int .i64 d.what, .string d.name, .string d.other, .string d.text, v, .int .i64 d.a, .int .i64 d.b]
set_option maxRecDepth 100000 in
set_option maxHeartbeats 2000000 in
/-- StoreNothing. -/
theorem lNothing (d : Dd) (A : Option Addr) (n c : Nat) (w : World) (hv : LnsAt (fun k => k < w.heap.size) w (.slice A n c) d.lines) (hz1 : d.name.size ≤ 140737488351232) (hz2 : d.other.size ≤ 140737488351232) (hz3 : d.text.size ≤ 140737488351232) (hz4 : d.lines.length ≤ 10000000000000)
    (hwa : -9223372036854775808 ≤ d.a ∧ d.a ≤ 9223372036854775807) (hwb : -9223372036854775808 ≤ d.b ∧ d.b ≤ 9223372036854775807) (hww : -9223372036854775808 ≤ d.what ∧ d.what ≤ 9223372036854775807) :
    Calls Try.prog 6 #[ddV d (.slice A n c)] w fun e w' => e = .returned (.bool true) ∧ Below w.heap.size w w' := by
  have HS := Lib.hid (fun w => lSane w)
  have hdb := Blk.new w 42 (dCs d (.slice A n c))
  have x0 := hdb.cell 0
  have x1 := hdb.cell 1
  have x2 := hdb.cell 2
  have x3 := hdb.cell 3
  have x4 := hdb.cell 4
  have x5 := hdb.cell 5
  have x6 := hdb.cell 6
  unfold dCs at x0 x1 x2 x3 x4 x5 x6
  simp only [List.getElem?_toArray, List.getElem?_cons_zero, List.getElem?_cons_succ] at x0 x1 x2 x3 x4 x5 x6
  have hbA : Below w.heap.size w ((w.alloc (.cells (dCs d (.slice A n c)) 42)).alloc (.cells (dCs d (.slice A n c)) 42)) := ((Below.refl _ _).alloc (Nat.le_refl _) _).alloc (by simp) _
  have hsl := Blk.new (w.alloc (.cells (dCs d (.slice A n c)) 42)) 42 (dCs d (.slice A n c))
  have HBig := Lib.hid (lBig (.slice (some ⟨(w.alloc (.cells (dCs d (.slice A n c)) 42)).heap.size, 0, none⟩) 1 1) [d] _ ⟨_, 1, rfl, Nat.le_refl _, by unfold maxLen; omega, fun _ => ⟨_, 0, rfl, hsl.lt, fun i y hy => by
    have hi0 : i = 0 := by
      have := (List.getElem?_eq_some_iff.1 hy).1
      change i < 1 at this
      omega
    subst hi0
    have hyd : y = d := by
      change some d = some y at hy
      injection hy with hy
      exact hy.symm
    subst hyd
    exact ⟨hsl.cell 0, hsl.cell 1, hsl.cell 2, hsl.cell 3, ⟨_, hsl.cell 4, hv.stay (Kept.of_below hbA (fun _ h => h)) (fun k hk => Nat.lt_of_lt_of_le hk hbA.size)⟩, hsl.cell 5, hsl.cell 6, hz1, hz2, hz3, hz4, hwa, hwb, hww⟩⟩⟩)
  have HBA := Lib.hid hbA
  rw [show (w.alloc (.cells (dCs d (.slice A n c)) 42)).heap.size = w.heap.size + 1 by simp] at HBig
  unfold dCs at HBig
  obtain ⟨m, hm, hy⟩ := u64_mod d.what 9 (by omega) (by omega)
  have hy' : wrap64 ((IntKind.u64.wrap d.what).tmod 9) = (m : Int) := hy
  have HDb := Lib.hid (hdb.alloc (.cells (dCs d (.slice A n c)) 42))
  have HV := Lib.hid hv
  clear hsl hdb hbA hy hv
  unfold ddV
  go_enter Try.func6, Try.ntmps6
  go_wp2_with (first
    | (go_at_call 19; refine HBig.out.mono ?_; rintro e w1 ⟨⟨b, rfl⟩, hb1⟩; have hd1 := Lib.hid (HDb.out.below hb1 HDb.out.lt); have c0 : w1.cell? ⟨w.heap.size, 0, none⟩ = some (.int .i64 d.what) := hd1.out.cell 0; have f0 := hd1.out.frozen 0)
    | (go_at_call 9; refine (HS.out _).mono ?_; rintro e w2 ⟨rfl, hb2⟩))
  · go_ret
    exact ⟨rfl, HBA.out.trans ((ntrans hb1 hb2).mono HBA.out.size)⟩
  · have hb1size := hb1.size
    obtain ⟨w5, h5⟩ : ∃ w5, w5 = (((w1.setCell ⟨w.heap.size, 0, none⟩ (.int .i64 (m : Nat))).alloc (.cells #[.map none] 50)).alloc (.cells #[.pointer none, .pointer (some ⟨w1.heap.size, 0, none⟩)] 26)) := ⟨_, rfl⟩
    have hsz : (w1.setCell ⟨w.heap.size, 0, none⟩ (.int .i64 (m : Nat))).heap.size = w1.heap.size := by simp [World.setCell]
    have hD5 : Blk w5 w.heap.size 42 (dCs { d with what := m } (.slice A n c)) := by rw [h5]; exact ((blk_set hd1.out (.int .i64 (m : Nat))).alloc _).alloc _
    have hZ5 : Blk w5 w1.heap.size 50 #[.map none] := by
      have := Blk.new (w1.setCell ⟨w.heap.size, 0, none⟩ (.int .i64 (m : Nat))) 50 #[.map none]
      rw [hsz] at this
      rw [h5]; exact this.alloc _
    have hQ5 : Blk w5 (w1.heap.size + 1) 26 #[.pointer none, .pointer (some ⟨w1.heap.size, 0, none⟩)] := by
      have := Blk.new ((w1.setCell ⟨w.heap.size, 0, none⟩ (.int .i64 (m : Nat))).alloc (.cells #[.map none] 50)) 26 #[.pointer none, .pointer (some ⟨w1.heap.size, 0, none⟩)]
      rw [show ((w1.setCell ⟨w.heap.size, 0, none⟩ (.int .i64 (m : Nat))).alloc (.cells #[.map none] 50)).heap.size = w1.heap.size + 1 by simp [hsz]] at this
      rw [h5]; exact this
    have hB1 : Below w.heap.size w w1 := HBA.out.trans (hb1.mono HBA.out.size)
    have hB5 : Below w.heap.size w w5 := by
      rw [h5]
      exact ((hB1.trans ((turn_set w1 w.heap.size 0 (.int .i64 (m : Nat))).below (Below.refl _ _) hB1.size (fun i e => by rw [e]; exact Nat.le_refl _))).alloc (by rw [hsz]; exact hB1.size) _).alloc (by simp [hsz]; have := hB1.size; omega) _
    rw [← h5]
    clear h5 hsz hd1 c0 f0 x0 x1 x2 x3 x4 x5 x6
    have HD5 := Lib.hid hD5
    have HZ5 := Lib.hid hZ5
    have HQ5 := Lib.hid hQ5
    have HB5 := Lib.hid hB5
    have hmw : 0 ≤ (m : Int) ∧ (m : Int) < 9 := by omega
    clear hD5 hZ5 hQ5 hB1 hB5 HBA HDb hb1 HBig hy'
    have hbf : b = false := by first | assumption | (simpa using (by assumption : ¬ b = true))
    subst hbf
    go_loopw [5] (fun v5 wr => ∃ i : Nat, i ≤ 2 ∧ v5 = .int .i64 i ∧ Below w5.heap.size w5 wr) (fun v5 _ => 2 - (intOf v5).toNat)
    case atStart => exact ⟨0, Nat.zero_le _, rfl, Below.refl _ _⟩
    case round =>
      obtain ⟨i, hi, rfl, hb⟩ := hrel
      have hcases : i = 0 ∨ i = 1 ∨ i = 2 := by omega
      have HV5 : Hid (∀ w', Below w5.heap.size w5 w' → LnsAt (fun k => k < w.heap.size) w' (.slice A n c) d.lines ∧ ∀ k, k < w.heap.size → k < w'.heap.size) := Lib.hid (fun w' hw =>
        have h2 := HB5.out.trans (hw.mono HB5.out.size)
        ⟨HV.out.stay (Kept.of_below h2 (fun _ h => h)) (fun _ h => h), fun k hk => Nat.lt_of_lt_of_le hk h2.size⟩)
      rcases hcases with rfl | rfl | rfl
      · obtain ⟨rv, hrv⟩ : ∃ rv, rv = (Value.pointer none) := ⟨_, rfl⟩
        have HNo : Hid (∀ w', Below w5.heap.size w5 w' → NoSt w' rv) := Lib.hid (fun w' hw => by
          rw [hrv]
          exact .inl rfl)
        have HS8 : Hid (∀ w', Below w5.heap.size w5 w' → (fun w' => w'.cell? ⟨w1.heap.size + 1, 0, none⟩ = some rv ∧ w'.cell? ⟨w.heap.size, 0, none⟩ = some (.int .i64 m) ∧ w'.cell? ⟨w.heap.size, 1, none⟩ = some (.string d.name) ∧ w'.cell? ⟨w.heap.size, 2, none⟩ = some (.string d.other) ∧ w'.cell? ⟨w.heap.size, 3, none⟩ = some (.string d.text) ∧ w'.cell? ⟨w.heap.size, 4, none⟩ = some (.slice A n c) ∧ w'.cell? ⟨w.heap.size, 5, none⟩ = some (.int .i64 d.a) ∧ w'.cell? ⟨w.heap.size, 6, none⟩ = some (.int .i64 d.b)) w') := Lib.hid (fun w' hw => by
          have hD := HD5.out.below hw HD5.out.lt
          rw [hrv]
          exact ⟨(HQ5.out.below hw HQ5.out.lt).cell 0, hD.cell 0, hD.cell 1, hD.cell 2, hD.cell 3, hD.cell 4, hD.cell 5, hD.cell 6⟩)
        have HS2 : Hid (∀ w', Below w5.heap.size w5 w' → (fun w' => w'.cell? ⟨w1.heap.size + 1, 0, none⟩ = some rv ∧ w'.cell? ⟨w.heap.size, 1, none⟩ = some (.string d.name)) w') := Lib.hid (fun w' hw => ⟨(HS8.out w' hw).1, (HS8.out w' hw).2.2.1⟩)
        have HDo : Hid (∀ w', Below w5.heap.size w5 w' → Calls Try.prog 21 #[rv, .agg #[.int .i64 (m : Nat), .string d.name, .string d.other, .string d.text, .slice A n c, .int .i64 d.a, .int .i64 d.b]] w' fun x w2 => x = .returned (.int .i64 1) ∧ Below w'.heap.size w' w2) := Lib.hid (fun w' hw =>
          zDo { d with what := m } _ _ (HV5.out w' hw).1 (HV5.out w' hw).2 hz3 hmw (HNo.out w' hw))
        have b1 := hb.drew
        have b2 := b1.drew
        have b3 := b2.drew
        have b4 := b3.drew
        have B1 := Lib.hid b1
        have B2 := Lib.hid b2
        have B3 := Lib.hid b3
        have B4 := Lib.hid b4
        clear hrv b1 b2 b3 b4
        go_wp2_with fail
        go_region_held3 (fun w' => w'.cell? ⟨w1.heap.size + 1, 0, none⟩ = some rv ∧ w'.cell? ⟨w.heap.size, 1, none⟩ = some (.string d.name)) (first | exact HS2.out _ B1.out)
          (first | (go_at_call 13; refine (zText d.name (HNo.out _ B1.out)).mono ?_; rintro e w6 ⟨rfl, rfl⟩))
        go_wp2_with fail
        go_region_held3 (fun w' => w'.cell? ⟨w1.heap.size + 1, 0, none⟩ = some rv ∧ w'.cell? ⟨w.heap.size, 1, none⟩ = some (.string d.name)) (first | exact HS2.out _ B2.out)
          (first | (go_at_call 17; refine (zLines d.name (HNo.out _ B2.out)).mono ?_; rintro e w6 ⟨rfl, rfl⟩))
        go_wp2_with fail
        go_region_held3 (fun w' => w'.cell? ⟨w1.heap.size + 1, 0, none⟩ = some rv ∧ w'.cell? ⟨w.heap.size, 1, none⟩ = some (.string d.name)) (first | exact HS2.out _ B3.out)
          (first | (go_at_call 25; refine (zLength d.name (HNo.out _ B3.out)).mono ?_; rintro e w6 ⟨rfl, rfl⟩))
        go_wp2_with fail
        go_region_held3 (fun w' => w'.cell? ⟨w1.heap.size + 1, 0, none⟩ = some rv ∧ w'.cell? ⟨w.heap.size, 0, none⟩ = some (.int .i64 m) ∧ w'.cell? ⟨w.heap.size, 1, none⟩ = some (.string d.name) ∧ w'.cell? ⟨w.heap.size, 2, none⟩ = some (.string d.other) ∧ w'.cell? ⟨w.heap.size, 3, none⟩ = some (.string d.text) ∧ w'.cell? ⟨w.heap.size, 4, none⟩ = some (.slice A n c) ∧ w'.cell? ⟨w.heap.size, 5, none⟩ = some (.int .i64 d.a) ∧ w'.cell? ⟨w.heap.size, 6, none⟩ = some (.int .i64 d.b)) (first | exact HS8.out _ B4.out | exact HS8.out _ B6.out | exact HS8.out _ B8.out)
          (first
            | (go_at_call 21; refine (HDo.out _ B4.out).mono ?_; rintro e w6 ⟨rfl, hb6⟩; have B6 := Lib.hid (B4.out.trans (hb6.mono B4.out.size)); clear hb6)
            | (go_at_call 22; refine (zKind d.name (HNo.out _ B6.out)).mono ?_; rintro e w7 ⟨rfl, rfl⟩)
            | (go_at_call 26; refine (zNames (HNo.out _ B6.out)).mono ?_; rintro e w8 ⟨⟨A8, c8, rfl⟩, hb8⟩; have B8 := Lib.hid (B6.out.trans (hb8.mono B6.out.size)); clear hb8)
            | (go_at_call 27; refine (zCopy (HNo.out _ B8.out)).mono ?_; rintro e w9 ⟨rfl, rfl⟩))
        go_wp2_with fail
        go_roundw
        case rel => exact ⟨1, by omega, by go_num, B8.out⟩
        case measure => simp [intOf]
      · obtain ⟨rv, hrv⟩ : ∃ rv, rv = (Value.pointer (some ⟨w1.heap.size, 0, none⟩)) := ⟨_, rfl⟩
        have HNo : Hid (∀ w', Below w5.heap.size w5 w' → NoSt w' rv) := Lib.hid (fun w' hw => by
          rw [hrv]
          exact .inr ⟨_, rfl, (HZ5.out.below hw HZ5.out.lt).cell 0⟩)
        have HS8 : Hid (∀ w', Below w5.heap.size w5 w' → (fun w' => w'.cell? ⟨w1.heap.size + 1, 1, none⟩ = some rv ∧ w'.cell? ⟨w.heap.size, 0, none⟩ = some (.int .i64 m) ∧ w'.cell? ⟨w.heap.size, 1, none⟩ = some (.string d.name) ∧ w'.cell? ⟨w.heap.size, 2, none⟩ = some (.string d.other) ∧ w'.cell? ⟨w.heap.size, 3, none⟩ = some (.string d.text) ∧ w'.cell? ⟨w.heap.size, 4, none⟩ = some (.slice A n c) ∧ w'.cell? ⟨w.heap.size, 5, none⟩ = some (.int .i64 d.a) ∧ w'.cell? ⟨w.heap.size, 6, none⟩ = some (.int .i64 d.b)) w') := Lib.hid (fun w' hw => by
          have hD := HD5.out.below hw HD5.out.lt
          rw [hrv]
          exact ⟨(HQ5.out.below hw HQ5.out.lt).cell 1, hD.cell 0, hD.cell 1, hD.cell 2, hD.cell 3, hD.cell 4, hD.cell 5, hD.cell 6⟩)
        have HS2 : Hid (∀ w', Below w5.heap.size w5 w' → (fun w' => w'.cell? ⟨w1.heap.size + 1, 1, none⟩ = some rv ∧ w'.cell? ⟨w.heap.size, 1, none⟩ = some (.string d.name)) w') := Lib.hid (fun w' hw => ⟨(HS8.out w' hw).1, (HS8.out w' hw).2.2.1⟩)
        have HDo : Hid (∀ w', Below w5.heap.size w5 w' → Calls Try.prog 21 #[rv, .agg #[.int .i64 (m : Nat), .string d.name, .string d.other, .string d.text, .slice A n c, .int .i64 d.a, .int .i64 d.b]] w' fun x w2 => x = .returned (.int .i64 1) ∧ Below w'.heap.size w' w2) := Lib.hid (fun w' hw =>
          zDo { d with what := m } _ _ (HV5.out w' hw).1 (HV5.out w' hw).2 hz3 hmw (HNo.out w' hw))
        have b1 := hb.drew
        have b2 := b1.drew
        have b3 := b2.drew
        have b4 := b3.drew
        have B1 := Lib.hid b1
        have B2 := Lib.hid b2
        have B3 := Lib.hid b3
        have B4 := Lib.hid b4
        clear hrv b1 b2 b3 b4
        go_wp2_with fail
        go_region_held3 (fun w' => w'.cell? ⟨w1.heap.size + 1, 1, none⟩ = some rv ∧ w'.cell? ⟨w.heap.size, 1, none⟩ = some (.string d.name)) (first | exact HS2.out _ B1.out)
          (first | (go_at_call 13; refine (zText d.name (HNo.out _ B1.out)).mono ?_; rintro e w6 ⟨rfl, rfl⟩))
        go_wp2_with fail
        go_region_held3 (fun w' => w'.cell? ⟨w1.heap.size + 1, 1, none⟩ = some rv ∧ w'.cell? ⟨w.heap.size, 1, none⟩ = some (.string d.name)) (first | exact HS2.out _ B2.out)
          (first | (go_at_call 17; refine (zLines d.name (HNo.out _ B2.out)).mono ?_; rintro e w6 ⟨rfl, rfl⟩))
        go_wp2_with fail
        go_region_held3 (fun w' => w'.cell? ⟨w1.heap.size + 1, 1, none⟩ = some rv ∧ w'.cell? ⟨w.heap.size, 1, none⟩ = some (.string d.name)) (first | exact HS2.out _ B3.out)
          (first | (go_at_call 25; refine (zLength d.name (HNo.out _ B3.out)).mono ?_; rintro e w6 ⟨rfl, rfl⟩))
        go_wp2_with fail
        go_region_held3 (fun w' => w'.cell? ⟨w1.heap.size + 1, 1, none⟩ = some rv ∧ w'.cell? ⟨w.heap.size, 0, none⟩ = some (.int .i64 m) ∧ w'.cell? ⟨w.heap.size, 1, none⟩ = some (.string d.name) ∧ w'.cell? ⟨w.heap.size, 2, none⟩ = some (.string d.other) ∧ w'.cell? ⟨w.heap.size, 3, none⟩ = some (.string d.text) ∧ w'.cell? ⟨w.heap.size, 4, none⟩ = some (.slice A n c) ∧ w'.cell? ⟨w.heap.size, 5, none⟩ = some (.int .i64 d.a) ∧ w'.cell? ⟨w.heap.size, 6, none⟩ = some (.int .i64 d.b)) (first | exact HS8.out _ B4.out | exact HS8.out _ B6.out | exact HS8.out _ B8.out)
          (first
            | (go_at_call 21; refine (HDo.out _ B4.out).mono ?_; rintro e w6 ⟨rfl, hb6⟩; have B6 := Lib.hid (B4.out.trans (hb6.mono B4.out.size)); clear hb6)
            | (go_at_call 22; refine (zKind d.name (HNo.out _ B6.out)).mono ?_; rintro e w7 ⟨rfl, rfl⟩)
            | (go_at_call 26; refine (zNames (HNo.out _ B6.out)).mono ?_; rintro e w8 ⟨⟨A8, c8, rfl⟩, hb8⟩; have B8 := Lib.hid (B6.out.trans (hb8.mono B6.out.size)); clear hb8)
            | (go_at_call 27; refine (zCopy (HNo.out _ B8.out)).mono ?_; rintro e w9 ⟨rfl, rfl⟩))
        go_wp2_with fail
        go_roundw
        case rel => exact ⟨2, by omega, by go_num, B8.out⟩
        case measure => simp [intOf]
      · go_wp2_with (go_at_call 9; refine (HS.out _).mono ?_; rintro e w7 ⟨rfl, hb7⟩)
        go_ret
        exact ⟨rfl, HB5.out.trans ((ntrans hb hb7).mono HB5.out.size)⟩
end Go.Proofs.Ytbedddgfijpbcaa
