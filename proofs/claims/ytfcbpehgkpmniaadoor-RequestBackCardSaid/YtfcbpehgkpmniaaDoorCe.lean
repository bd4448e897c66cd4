/- Walks of strings.TrimLeft at blanks and of the code's Words. -/
import Derived.Test.YtfcbpehgkpmniaaDoorCd
namespace Go.Proofs.YtfcbpehgkpmniaaDoor
open Go.RowKit Go.Maps Go.WideMaps

/-- The set of the blanks. -/
def blSet : Array Value := Lib.setCells [32, 9]
theorem bl_in (c : UInt8) : [32, 9].contains c = blB c := by
  have h : ∀ n : Fin 256, [32, 9].contains (UInt8.ofFin n) = blB (UInt8.ofFin n) := by decide +kernel
  exact h c.toFin
theorem bl_cell (c : UInt8) : blSet[c.toNat]? = some (.bool (blB c)) := by
  unfold blSet
  rw [Lib.setCells_at, bl_in]
def txOf : Value → ByteArray
  | .string s => s
  | _ => ⟨#[]⟩
theorem ext_tail {u : ByteArray} (_h : 0 < u.size) : (u.extract 1 u.size).data.toList = dr u 1 := by
  rw [ext_dr, List.take_of_length_le (by rw [dr_len]; exact Nat.le_refl _)]
theorem dat_dr (s : ByteArray) : dr s 0 = s.data.toList := rfl
/-- trimLeftASCII, at the set of the blanks. -/
theorem cTrimSet (s : ByteArray) (_hs : s.size ≤ maxLen) (b : Nat) (t : TypeId) (w : World) (h : Blk w b t blSet) :
    Calls Tryd.prog 48 #[.string s, .pointer (some ⟨b, 0, none⟩)] w fun e w' => (∃ u : ByteArray, e = .returned (.string u) ∧ u.data.toList = skL s.data.toList) ∧ w = w' := by
  have HC := Lib.hid (fun (c : UInt8) => Tryd.asciiSet_contains b c (blB c) w (by rw [h.cell]; exact bl_cell c))
  clear h
  go_enter Tryd.func48, Tryd.ntmps48
  go_wp2_with fail
  go_loop [0] (fun v0 => ∃ u : ByteArray, u.size ≤ s.size ∧ v0 = .string u ∧ skL u.data.toList = skL s.data.toList) (fun v0 => (txOf v0).size)
  case atStart => exact ⟨s, Nat.le_refl _, rfl, rfl⟩
  case round =>
    obtain ⟨u, hu, rfl, hk⟩ := hrel
    have HK := Lib.hid hk
    clear hk
    by_cases h0 : 0 < u.size
    · have hc := Lib.hid (dr_cons h0)
      cases hbk : blB u[0]
      · have HBk := Lib.hid hbk
        clear hbk
        go_wp2_with (go_at_call 67; refine (HC.out _).mono ?_; rintro e w1 ⟨rfl, rfl⟩; rw [HBk.out])
        go_ret
        refine ⟨⟨u, rfl, ?_⟩, rfl⟩
        rw [← HK.out, ← dat_dr u, hc.out, skL_cons, HBk.out]
        rfl
      · have HBk := Lib.hid hbk
        have hz : (u.extract 1 u.size).size = u.size - 1 := by rw [size_len, ext_tail h0, dr_len]
        clear hbk
        go_wp2_with (go_at_call 67; refine (HC.out _).mono ?_; rintro e w1 ⟨rfl, rfl⟩; rw [HBk.out])
        go_round
        case rel => exact ⟨u.extract 1 u.size, by omega, rfl, by rw [← HK.out, ← dat_dr u, hc.out, skL_cons, HBk.out, ext_tail h0]; rfl⟩
        case measure => show (u.extract 1 u.size).size < u.size; omega
    · have he := Lib.hid (dr_end (s := u) (i := 0) (by omega))
      go_wp2_with fail
      go_ret
      refine ⟨⟨u, rfl, ?_⟩, rfl⟩
      rw [← HK.out, ← dat_dr u, he.out]
      rfl
theorem zeroSet (w : World) : (zeroValue 77).run Tryd.prog w = .ok (.agg (Array.replicate 256 (.bool false))) w := by kernel_rfl
set_option maxRecDepth 100000 in
set_option maxHeartbeats 1000000 in
/-- TrimLeft, at blanks. -/
theorem cTrimLeft (s : ByteArray) (hs : s.size ≤ maxLen) (w : World) :
    Calls Tryd.prog 21 #[.string s, .string ⟨#[32, 9]⟩] w fun e w' => (∃ u : ByteArray, e = .returned (.string u) ∧ u.data.toList = skL s.data.toList) ∧ Below w.heap.size w w' := by
  have HM := Lib.hid (fun w => Tryd.strings_makeASCIISet zeroSet ⟨#[32, 9]⟩ w (by decide) (by
    intro j b hb
    have : b ∈ ([32, 9] : List UInt8) := List.mem_of_getElem? hb
    simp only [List.mem_cons, List.not_mem_nil, or_false] at this
    rcases this with rfl | rfl <;> decide))
  have HT := Lib.hid (fun b w => cTrimSet s hs b 77 w)
  by_cases h0 : s.size = 0
  · have e : s = ⟨#[]⟩ := by
      apply ba_eq
      have : s.data.toList.length = 0 := by rw [← size_len]; exact h0
      rw [List.eq_nil_of_length_eq_zero this]
    subst e
    go_enter Tryd.func21, Tryd.ntmps21
    go_wp2_with fail
    go_ret
    exact ⟨⟨_, rfl, rfl⟩, Below.refl _ _⟩
  · have hne := toList_ne h0
    have HN := Lib.hid hne.2
    have he := hne.1
    have hsc : (storeCells ⟨w.heap.size + 1, 0, none⟩ (Lib.setCells [32, 9]).toList 0).run Tryd.prog ((w.alloc (.cells (Lib.setCells [32, 9]) 77)).alloc (.cells Tryd.zeroCells77 77)) = .ok () ((w.alloc (.cells (Lib.setCells [32, 9]) 77)).alloc (.cells (Lib.setCells [32, 9]) 77)) := by
      have := run_storeCells_new (P := Tryd.prog) (w.alloc (.cells (Lib.setCells [32, 9]) 77)) 77 Tryd.zeroCells77 (Lib.setCells [32, 9]) (by rw [Lib.setCells_size]; kernel_rfl) (by rw [Lib.setCells_size]; kernel_rfl) (Lib.setCells_one _)
      simpa using this
    have HBk : Hid (Blk ((w.alloc (.cells (Lib.setCells [32, 9]) 77)).alloc (.cells (Lib.setCells [32, 9]) 77)) (w.heap.size + 1) 77 blSet) := Lib.hid (by
      have := Blk.new (w.alloc (.cells (Lib.setCells [32, 9]) 77)) 77 (Lib.setCells [32, 9])
      rwa [World.size_alloc] at this)
    clear hne
    go_enter Tryd.func21, Tryd.ntmps21
    go_wp2_with (first
      | (go_at_call 47
         refine (HM.out _).mono ?_
         rintro e w1 ⟨rfl, rfl⟩)
      | (go_at_call 48
         refine (HT.out _ _ HBk.out).mono ?_
         rintro e w1 ⟨⟨u, rfl, hu⟩, rfl⟩
         have HU := Lib.hid hu
         clear hu))
    go_ret
    exact ⟨⟨u, rfl, HU.out⟩, ((Below.refl _ _).alloc (Nat.le_refl _) _).alloc (by simp) _⟩
set_option maxRecDepth 100000 in
set_option maxHeartbeats 1000000 in
/-- Words. -/
theorem cWords (s : ByteArray) (hs : s.size ≤ 1000000) (w : World) :
    Calls Tryd.prog 12 #[.string s] w fun e w' => ∃ v, e = .returned v ∧ SsAt (fun k => w.heap.size ≤ k ∧ k < w'.heap.size) w' v (wdsT s) ∧ Below w.heap.size w w' := by
  have HTl := Lib.hid (fun (u : ByteArray) (h : u.size ≤ 1000000) w => cTrimLeft u (by unfold maxLen; omega) w)
  have HRd := Lib.hid (fun (u : ByteArray) (h0 : 0 < u.size) (hb : blB u[0] = false) (h : u.size ≤ 1000000) w => cReadWord u h0 hb h w)
  obtain ⟨i0, hi0, hz0, hz1, hz2⟩ := info_parts string_info
  go_enter Tryd.func12, Tryd.ntmps12
  go_wp2_with fail
  go_loopw [0, 3] (fun v0 v3 wr => ∃ (u : ByteArray) (L : List ByteArray), v0 = .string u ∧ L.length + u.size ≤ s.size ∧ wr.ownsRow w.heap.size 9 1 v3 L.length (L.map Value.string) ∧ Below w.heap.size w wr ∧ (∀ x ∈ L, x.size ≤ 2000000) ∧ wdsL s.data.toList = (L.map fun x => x.data.toList) ++ wdsL u.data.toList) (fun v0 _ _ => (txOf v0).size)
  case atStart => exact ⟨s, [], rfl, by simp, World.ownsRow_nil _ _ _ _, Below.refl _ _, (fun x hx => by cases hx), rfl⟩
  case round =>
    obtain ⟨u, L, rfl, hL, hown, hb, hz, he⟩ := hrel
    have HE := Lib.hid he
    have HZ := Lib.hid hz
    have HO0 := Lib.hid hown
    have HB0 := Lib.hid hb
    obtain ⟨A3, c3, rfl, _, _⟩ := own_form2 hown
    clear he hz hown hb
    go_upto_region 3 with (go_at_call 21; refine (HTl.out u (by omega) _).mono ?_; rintro e w1 ⟨⟨u1, rfl, hu1⟩, hb1⟩; have HU1 := Lib.hid hu1; have HB1 := Lib.hid hb1; clear hu1 hb1)
    have hle : u1.size ≤ u.size := by
      rw [size_len u1, HU1.out, size_len u]
      exact skL_le _
    have HW := Lib.hid (wdsL_sk u.data.toList)
    by_cases h0 : 0 < u1.size
    · have hne := toList_ne (s := u1) (by omega)
      have HN := Lib.hid hne.2
      have hemp := hne.1
      clear hne
      have hc := Lib.hid (dr_cons h0)
      have hbk : blB u1[0] = false := skL_head (l := u.data.toList) (t := dr u1 1) (by rw [← HU1.out, ← dat_dr u1]; exact hc.out)
      have HBk := Lib.hid hbk
      clear hbk
      have HO := Lib.hid (own_turn HO0.out (Turn.of_below HB1.out) (fun _ _ h => h))
      have HB := Lib.hid (HB0.out.trans (HB1.out.mono HB0.out.size))
      go_wp2_with (first
        | (go_at_call 22
           refine (HRd.out u1 h0 HBk.out (by omega) _).mono ?_
           rintro e w2 ⟨⟨o, k, rfl, hk1, hk2, ho, hag1, hag2⟩, hb2⟩
           have HA1 := Lib.hid hag1
           have HA2 := Lib.hid hag2
           have HO2 := Lib.hid ((own_turn HO.out (Turn.of_below hb2) (fun _ _ h => h)).alloc (.cells #[.string o] 9))
           have HB2 := Lib.hid (HB.out.trans (hb2.mono HB.out.size))
           have hnb := Lib.hid (Blk.new w2 9 #[.string o])
           clear hag1 hag2 hb2)
        | (at_builtin
           have hsz := HB2.out.size
           refine wpList_append_own_at _ rfl (.tmp 16) (.tmp 18) _ rfl w.heap.size 9 i0 _ 1 16 Tryd.underlying25 hi0 hz0 hz1 hz2 rfl (by omega) (.slice A3 L.length c3) L.length _ rfl HO2.out ⟨w2.heap.size, 0, none⟩ 1 1 [.string o] rfl rfl (cells_new hnb.out) (by intro u hu; rw [List.mem_singleton.1 hu]; rfl) (by unfold maxLen; omega) (by omega) (by simp; omega) ?_
           intro v1 w3 hown1 hg1 _ _
           have hb3 : Below w.heap.size w w3 := (HB2.out.alloc HB2.out.size _).grown hg1 (by simp; omega) (fun q hq => own_ge HO2.out hq)
           have HO3 := Lib.hid hown1
           have HB3 := Lib.hid hb3
           clear hown1 hg1 hb3 hsz))
      go_roundw
      case rel =>
        have hz1 : (u1.extract k u1.size).data.toList = dr u1 k := by rw [ext_dr, List.take_of_length_le (by rw [dr_len]; exact Nat.le_refl _)]
        have hz2 : (u1.extract k u1.size).size = u1.size - k := by rw [size_len, hz1, dr_len]
        refine ⟨u1.extract k u1.size, L ++ [o], rfl, by rw [List.length_append, hz2]; simp; omega, by rw [List.length_append, List.map_append]; exact HO3.out, HB3.out, fun x hx => ?_, ?_⟩
        · rcases List.mem_append.1 hx with hx | hx
          · exact HZ.out x hx
          · rw [List.mem_singleton.1 hx]; omega
        · rw [HE.out, ← HW.out, ← HU1.out, ← dat_dr u1, wdsL_at hc.out HBk.out, ← HA1.out, ← HA2.out, hz1, List.map_append, List.append_assoc]
          rfl
      case measure =>
        have hz1 : (u1.extract k u1.size).data.toList = dr u1 k := by rw [ext_dr, List.take_of_length_le (by rw [dr_len]; exact Nat.le_refl _)]
        have hz2 : (u1.extract k u1.size).size = u1.size - k := by rw [size_len, hz1, dr_len]
        show (u1.extract k u1.size).size < u.size
        omega
    · have e0 : u1 = ⟨#[]⟩ := by
        apply ba_eq
        have : u1.data.toList.length = 0 := by rw [← size_len]; omega
        rw [List.eq_nil_of_length_eq_zero this]
      subst e0
      go_wp2_with fail
      go_ret
      have e : wdsT s = L := by unfold wdsT; rw [HE.out, ← HW.out, ← HU1.out, show wdsL [] = [] from rfl, List.append_nil, ba_back]
      refine ⟨_, rfl, ?_, HB0.out.trans (HB1.out.mono HB0.out.size)⟩
      rw [e]
      exact own_strs (own_turn HO0.out (Turn.of_below HB1.out) (fun _ _ h => h)) (fun x hx => Nat.le_trans (HZ.out x hx) (by omega))
end Go.Proofs.YtfcbpehgkpmniaaDoor
