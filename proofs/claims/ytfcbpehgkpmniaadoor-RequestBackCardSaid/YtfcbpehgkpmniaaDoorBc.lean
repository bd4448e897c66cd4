/- Walk of the code's Write. -/
import Derived.Test.YtfcbpehgkpmniaaDoorBb
import Derived.Test.YtfcbpehgkpmniaaDoorCf
import Derived.Deep.DeepCutAuto
import Derived.Deep.CutBlock
import Derived.Deep.CutRange
namespace Go.Proofs.YtfcbpehgkpmniaaDoor
open Go.RowKit Go.Maps Go.WideMaps

def tot (l : List ByteArray) : Nat := (l.map ByteArray.size).sum
theorem tot_cons (x : ByteArray) (l : List ByteArray) : tot (x :: l) = x.size + tot l := rfl
theorem drop_at {l : List ByteArray} {k : Nat} {x : ByteArray} (h : l[k]? = some x) : l.drop k = x :: l.drop (k + 1) := by
  obtain ⟨hk, rfl⟩ := List.getElem?_eq_some_iff.1 h
  exact List.drop_eq_getElem_cons hk
theorem Bu.stay {b : Nat} {a : List UInt8} {w w' : World} (h : Bu b a w) (hb : Below w.heap.size w w') : Bu b a w' := by
  have key : ∀ p, Lib.BuilderAt 66 5 b b p (Lib.byteCells a) w → Lib.BuilderAt 66 5 b b p (Lib.byteCells a) w' := by
    rintro p ⟨hB, v, hbk, hown, hne⟩
    exact ⟨hB, v, (hb.block _ (show Blk w b _ _ from hbk).lt).trans hbk, own_turn hown (Turn.of_below hb) (fun _ _ h => h), hne⟩
  exact h.elim (fun x => .inl (key _ x)) (fun x => .inr (key _ x))
def nlf (l : List UInt8) : Bool := l.all (fun c => !decide (c.toNat = 10))
/-- What was written so far. -/
def Wr (R : Bool) (L : List (List UInt8)) (F : List UInt8) : Prop := tailR F ∧ (R = true → (∀ rest, tailR rest → wdsL (F ++ rest) = L ++ wdsL rest) ∧ nlf F = true)
theorem Wr.start (R : Bool) : Wr R [] [] := ⟨.inl rfl, fun _ => ⟨fun _rest _ => rfl, rfl⟩⟩
theorem Wr.no {R : Bool} {L L' : List (List UInt8)} {F word : List UInt8} (h : Wr R L F) : Wr false L' (F ++ 32 :: word) := by
  refine ⟨?_, fun h => by cases h⟩
  rcases h.1 with e | ⟨t, e⟩
  · exact .inr ⟨word, by rw [e]; rfl⟩
  · exact .inr ⟨t ++ 32 :: word, by rw [e]; rfl⟩
theorem dbl_nlf {a : List UInt8} (h : nlf a = true) : nlf (dblL a) = true := by
  induction a with
  | nil => rfl
  | cons c t ih =>
    unfold nlf at h ih ⊢
    rw [List.all_cons, Bool.and_eq_true] at h
    by_cases e : c.toNat = 34
    · rw [dblL_q e, List.all_cons, List.all_cons, ih h.2, h.1]; rfl
    · rw [dblL_p e, List.all_cons, ih h.2, h.1]; rfl
theorem Wr.yes {L : List (List UInt8)} {F a word : List UInt8} (h : Wr true L F) (hw : WordOf a word) (hW : wdsL word = [a]) (hn : nlf a = true) : Wr true (L ++ [a]) (F ++ 32 :: word) := by
  refine ⟨(Wr.no (L' := []) h).1, fun _ => ⟨fun rest hr => ?_, ?_⟩⟩
  · have h1 := (h.2 rfl).1 (32 :: (word ++ rest)) (.inr ⟨_, rfl⟩)
    rw [List.append_assoc, List.cons_append, h1, wdsL_blank, emb hw hW hr, List.append_assoc]
    rfl
  · have h2 := (h.2 rfl).2
    have h3 : nlf word = true := by
      rcases hw with ⟨rfl, _⟩ | rfl
      · exact hn
      · have := dbl_nlf hn
        unfold nlf at this ⊢
        rw [List.all_cons, List.all_append, this]; rfl
    unfold nlf at h2 h3 ⊢
    rw [List.all_append, List.all_cons, h2, h3]
    rfl
theorem nlf_idx (s : ByteArray) (h : decide (0 ≤ Lib.indexByte s.data.toList 10) = false) : nlf s.data.toList = true := by
  rw [idx_mem] at h
  unfold nlf
  rw [List.all_eq_true]
  intro c hc
  cases hd : decide (c.toNat = 10)
  · rfl
  · have e : c = 10 := UInt8.toNat_inj.1 (by simpa using hd)
    subst e
    have : s.data.toList.contains 10 = true := List.contains_iff_mem.2 hc
    rw [h] at this
    cases this
/-- What Write answers where it writes. -/
def WrOk (name : ByteArray) (l : List ByteArray) (T : ByteArray) : Prop := ∃ F, T.data.toList = 46 :: name.data.toList ++ F ∧ tailR F ∧ name.data.toList ≠ [] ∧ noBl name ∧ lineB T.data.toList = true ∧ wdsL F = bysL l
theorem line_of {name F : List UInt8} (h1 : lineB name = true) (h2 : nlf F = true) (h3 : (46 :: name ++ F).length ≤ 2000) : lineB (46 :: name ++ F) = true := by
  unfold lineB at h1 ⊢
  unfold nlf at h2
  rw [Bool.and_eq_true] at h1
  rw [List.cons_append, List.all_cons, List.all_append, h1.1, h2]
  rw [List.cons_append] at h3
  simp only [Bool.and_true, Bool.and_eq_true, decide_eq_true_eq]
  exact ⟨rfl, h3⟩
set_option maxRecDepth 100000 in
set_option maxHeartbeats 3000000 in
/-- Write. -/
theorem cWrite (name : ByteArray) (hn : name.size ≤ 140737488351232) (K : Nat → Prop) (v : Value) (l : List ByteArray) (m : Int) (w : World) (h : SsAt K w v l) (hK : ∀ k, K k → k < w.heap.size) (hl : l.length ≤ 30) (ht : tot l ≤ 1500) (hm : w.cell? ⟨0, 0, none⟩ = some (.int .i64 m)) :
    Calls Tryd.prog 18 #[.string name, v] w fun e w' => (∃ (T : ByteArray) (E : Int), e = .returned (.tuple #[.string T, .int .i64 E]) ∧ (E = 0 → WrOk name l T)) ∧ Below w.heap.size w w' := by
  obtain ⟨A, cap, rfl, a1, a2, a3⟩ := h
  have HA := Lib.hid a3
  have HK := Lib.hid hK
  have HM := Lib.hid hm
  have HMl := Lib.hid (cell_lt hm)
  unfold maxLen at a2
  have HB0 := Lib.hid (bu_new w)
  have HW0 := Lib.hid (show Below w.heap.size w (w.alloc (.cells #[.pointer none, .slice none 0 0] 66)) from (Below.refl _ _).alloc (Nat.le_refl _) _)
  have HCn := Lib.hid (fun w => cContainsAny name (by unfold maxLen; omega) w)
  have HV := Lib.hid (fun w => cValid name (by unfold maxLen; omega) w)
  have hsz1 : ((⟨#[46]⟩ : ByteArray).size : Int) = 1 := rfl
  have hnz : (⟨#[46]⟩ ++ name : ByteArray).size = 1 + name.size := by rw [ByteArray.size_append]; rfl
  have hnd : (⟨#[46]⟩ ++ name : ByteArray).data.toList = 46 :: name.data.toList := app_data _ _
  have HNd := Lib.hid hnd
  have hlen0 : (Lib.byteCells []).length + (⟨#[46]⟩ ++ name : ByteArray).size ≤ 140737488355328 := by
    rw [hnz, Lib.byteCells_length, List.length_nil]
    omega
  have HBW := Lib.hid (bWrite w.heap.size w.heap.size (Lib.byteCells []) (⟨#[46]⟩ ++ name) _ (bu_new w) hlen0 HW0.out.size)
  clear hlen0
  clear a3 hK hm hnd
  go_enter Tryd.func18, Tryd.ntmps18
  go_upto_region 3 with (go_at_call 34
                         refine HBW.out.mono ?_
                         rintro e w1 ⟨rfl, hu, hb, _⟩
                         rw [bu_str, HNd.out, List.nil_append] at hu
                         have HU1 := Lib.hid hu
                         have HB1 := Lib.hid (HW0.out.trans hb)
                         clear hu hb)
  go_cut [7] (fun v7 wx => ∃ R : Bool, v7 = .bool R ∧ (R = true → name.data.toList ≠ [] ∧ noBl name) ∧ Bu w.heap.size (46 :: name.data.toList) wx ∧ Below w.heap.size w wx)
  case first =>
    by_cases h0 : name.size = 0
    · have e : name = ⟨#[]⟩ := by
        apply ba_eq
        have : name.data.toList.length = 0 := by rw [← size_len]; exact h0
        rw [List.eq_nil_of_length_eq_zero this]
      subst e
      go_wp2_with fail
      go_meet
      case rel => exact ⟨false, rfl, (fun h => by cases h), HU1.out, HB1.out⟩
    · have hne := toList_ne h0
      have HN := Lib.hid hne.2
      have hemp := hne.1
      have HNn : Hid (name.data.toList ≠ []) := Lib.hid (fun e => h0 (by rw [size_len, e]; rfl))
      clear hne
      go_wp2_with (go_at_call 35; refine (HCn.out _).mono ?_; rintro e w2 ⟨⟨b, rfl, hbb⟩, hb⟩; have HBb := Lib.hid hbb; have HU2 := Lib.hid (Bu.stay HU1.out hb); have HB2 := Lib.hid (HB1.out.trans (hb.mono HB1.out.size)); clear hbb hb)
      go_meet
      case rel => exact ⟨!b, rfl, fun h => ⟨HNn.out, HBb.out (by simpa using h)⟩, HU2.out, HB2.out⟩
  case rest =>
    obtain ⟨R0, rfl, hR0, hu0, hb0⟩ := hcut
    have HR0 := Lib.hid hR0
    have HU0 := Lib.hid hu0
    have HB00 := Lib.hid hb0
    clear hR0 hu0 hb0 HU1 HB1
    rename World => wa
    go_wp2_with fail
    go_loopw [7, 23] (fun v7 v23 wr => ∃ (k : Nat) (R : Bool) (F : List UInt8), k ≤ l.length ∧ v7 = .bool R ∧ v23 = .int .i64 k ∧ (R = true → R0 = true) ∧ Bu w.heap.size (46 :: name.data.toList ++ F) wr ∧ Below w.heap.size w wr ∧ Wr R (bysL (l.take k)) F ∧ F.length + 2 * tot (l.drop k) + 3 * (l.length - k) ≤ 3100) (fun _ v23 _ => l.length - (intOf v23).toNat)
    case atStart => exact ⟨0, R0, [], Nat.zero_le _, rfl, rfl, fun h => h, by rw [List.append_nil]; exact HU0.out, HB00.out, Wr.start _, by rw [List.drop_zero]; simp; omega⟩
    case round =>
      obtain ⟨k, R, F, hk, rfl, rfl, hR, hu, hb, hwr, hlen⟩ := hrel
      have HR := Lib.hid hR
      have HU := Lib.hid hu
      have HB := Lib.hid hb
      have HWr := Lib.hid hwr
      clear hR hu hb hwr
      by_cases hlt : k < l.length
      · obtain ⟨g, off, rfl, hg, hr⟩ := HA.out (by omega)
        have hx : l[k]? = some l[k] := List.getElem?_eq_getElem hlt
        have c0 : w.cell? ⟨g, off + k, none⟩ = some (.string l[k]) := by
          have := (hr k _ hx).1
          rwa [Nat.mul_one] at this
        have c1 := (HB.out.cell (p := ⟨g, off + k, none⟩) (HK.out g hg)).trans c0
        have hdr := drop_at hx
        rw [hdr, tot_cons] at hlen
        have htk : l.take (k + 1) = l.take k ++ [l[k]] := by rw [List.take_add_one, hx]; rfl
        have HTk := Lib.hid htk
        have HMr := Lib.hid ((HB.out.cell (p := ⟨0, 0, none⟩) HMl.out).trans HM.out)
        clear hr hx c0 hdr htk
        obtain ⟨x, hxe⟩ : ∃ x, x = l[k] := ⟨_, rfl⟩
        rw [← hxe] at c1 hlen HTk
        have HWW := Lib.hid (cWriteWord x (by omega) m wr HMr.out)
        have hsz32 : ((⟨#[32]⟩ : ByteArray).size : Int) = 1 := rfl
        clear hxe
        go_upto_region 8 with (go_at_call 36
                               refine HWW.out.mono ?_
                               rintro e w1 ⟨⟨o, rfl, hoz, hwo⟩, hb⟩
                               have HWo := Lib.hid hwo
                               have HU1 := Lib.hid (Bu.stay HU.out hb)
                               have HB1 := Lib.hid (HB.out.trans (hb.mono HB.out.size))
                               clear hwo hb)
        have hoz2 : (⟨#[32]⟩ ++ o : ByteArray).size = 1 + o.size := by rw [ByteArray.size_append]; rfl
        have hlen1 : (Lib.byteCells (46 :: name.data.toList ++ F)).length + (⟨#[32]⟩ ++ o : ByteArray).size ≤ 140737488355328 := by
          rw [hoz2, Lib.byteCells_length, List.length_append, List.length_cons, ← size_len]
          omega
        have HBW := Lib.hid (bWrite w.heap.size w.heap.size (Lib.byteCells (46 :: name.data.toList ++ F)) (⟨#[32]⟩ ++ o) _ HU1.out hlen1 HB1.out.size)
        have hod : (⟨#[32]⟩ ++ o : ByteArray).data.toList = 32 :: o.data.toList := app_data _ _
        have HOd := Lib.hid hod
        clear hod hlen1
        go_upto_region 9 with (go_at_call 34
                               refine HBW.out.mono ?_
                               rintro e w2 ⟨rfl, hu, hb, _⟩
                               rw [bu_str, HOd.out, List.append_assoc] at hu
                               have HU2 := Lib.hid hu
                               have HB2 := Lib.hid (HB1.out.trans hb)
                               clear hu hb)
        cases R
        · go_wp2_with fail
          go_roundw
          case rel => exact ⟨k + 1, false, F ++ 32 :: o.data.toList, hlt, rfl, by go_num, (fun h => by cases h), HU2.out, HB2.out, by rw [HTk.out]; unfold bysL; rw [List.map_append]; exact Wr.no HWr.out, by rw [List.length_append, List.length_cons, ← size_len]; omega⟩
          case measure => simp [intOf]; omega
        · have HCo := Lib.hid (fun w => Tryd.strings_Contains_one x 10 w)
          cases hc : decide (0 ≤ Lib.indexByte x.data.toList 10)
          · rw [hc] at HCo
            have HLf := Lib.hid (nlf_idx x hc)
            have HWd := Lib.hid (fun w => cWords o (by omega) w)
            clear hc
            obtain ⟨xs, hxs⟩ : ∃ xs, xs = wdsT o := ⟨_, rfl⟩
            rw [← hxs] at HWd
            have HXs := Lib.hid hxs
            clear hxs
            by_cases hz : xs.length = 0
            · have HEq := Lib.hid (fun a1 a2 c w => Tryd.slices_Equal_string_empty a1 a2 c 1 1 w (by decide))
              go_wp2_with (first
                | (go_at_call 37; refine (HCo.out _).mono ?_; rintro e w9 ⟨rfl, rfl⟩)
                | (go_at_call 12
                   refine (HWd.out _).mono ?_
                   rintro e w3 ⟨v3, rfl, hv3, hb⟩
                   obtain ⟨A3, c3, rfl, q1, q2, q3⟩ := hv3
                   have HB3 := Lib.hid ((HB2.out.trans (hb.mono HB2.out.size)).alloc (HB2.out.trans (hb.mono HB2.out.size)).size (.cells #[.string x] 9))
                   have HU3 := Lib.hid (Bu.stay HU2.out (hb.alloc hb.size (.cells #[.string x] 9)))
                   rw [hz]
                   clear hb q1 q2 q3)
                | (go_at_call 38; refine (HEq.out _ _ _ _).mono ?_; rintro e w4 ⟨rfl, rfl⟩))
              go_roundw
              case rel => exact ⟨k + 1, false, F ++ 32 :: o.data.toList, hlt, rfl, by go_num, (fun h => by cases h), HU3.out, HB3.out, by rw [HTk.out]; unfold bysL; rw [List.map_append]; exact Wr.no HWr.out, by rw [List.length_append, List.length_cons, ← size_len]; omega⟩
              case measure => simp [intOf]; omega
            · by_cases he : xs = [x]
              · have HEx : Hid (wdsL o.data.toList = [x.data.toList]) := Lib.hid (by
                  have := wds_same (r := o) (l := [x])
                  rw [← HXs.out, he] at this
                  exact this.1 rfl)
                have HEq := Lib.hid (fun b1 o1 c b2 w h1 h2 => Tryd.slices_Equal_string b1 o1 xs.length c b2 0 1 1 xs [x] w (Nat.le_refl _) (Nat.le_refl _) (by rw [he]; show 1 ≤ _; omega) (by decide) h1 h2)
                have hdt : decide (xs.take xs.length = [x].take 1) = true := by rw [List.take_length, he]; simp
                rw [hdt] at HEq
                clear hdt he
                go_wp2_with (first
                  | (go_at_call 37; refine (HCo.out _).mono ?_; rintro e w9 ⟨rfl, rfl⟩)
                  | (go_at_call 12
                     refine (HWd.out _).mono ?_
                     rintro e w3 ⟨v3, rfl, hv3, hb⟩
                     obtain ⟨A3, c3, rfl, q1, q2, q3⟩ := hv3
                     have HB3 := Lib.hid ((HB2.out.trans (hb.mono HB2.out.size)).alloc (HB2.out.trans (hb.mono HB2.out.size)).size (.cells #[.string x] 9))
                     have HU3 := Lib.hid (Bu.stay HU2.out (hb.alloc hb.size (.cells #[.string x] 9)))
                     obtain ⟨g3, off3, rfl, hg3, hr3⟩ := q3 (by omega)
                     have HX1 : Hid (∀ j, j < xs.length → (w3.alloc (.cells #[.string x] 9)).cell? ⟨g3, off3 + j, none⟩ = some (.string (xs.getD j ByteArray.empty))) := Lib.hid (fun j hj => by
                       have hxj : xs[j]? = some xs[j] := List.getElem?_eq_getElem hj
                       have h1 := (hr3 j _ hxj).1
                       rw [Nat.mul_one] at h1
                       have h2 := ((Below.refl w3.heap.size w3).alloc (Nat.le_refl _) (.cells #[.string x] 9)).cell (p := ⟨g3, off3 + j, none⟩) hg3.2
                       rw [h2, h1, List.getD_eq_getElem?_getD, hxj]
                       rfl)
                     have HX2 : Hid (∀ j, j < [x].length → (w3.alloc (.cells #[.string x] 9)).cell? ⟨w3.heap.size, 0 + j, none⟩ = some (.string ([x].getD j ByteArray.empty))) := Lib.hid (fun j hj => by
                       have : j = 0 := by simpa using hj
                       subst this
                       exact (Blk.new w3 9 #[.string x]).cell 0)
                     have HQ2 := Lib.hid (show xs.length ≤ 9223372036854775807 by unfold maxLen at q2; omega)
                     clear hr3 hg3
                     clear hb q1 q2 q3)
                  | (go_at_call 38
                     refine (HEq.out _ _ _ _ _ HX1.out HX2.out).mono ?_
                     rintro e w4 ⟨rfl, q, rfl⟩
                     have HB4 := Lib.hid (below_drewN HB3.out q)
                     have HU4 : Hid (Bu w.heap.size _ ((w3.alloc (.cells #[.string x] 9)).drewN q)) := Lib.hid (Bu.stay HU3.out (below_drewN (Below.refl _ _) q))))
                go_roundw
                case rel => exact ⟨k + 1, true, F ++ 32 :: o.data.toList, hlt, rfl, by go_num, (fun _ => HR.out (by first | trivial | rfl)), HU4.out, HB4.out, by rw [HTk.out]; unfold bysL; rw [List.map_append]; exact Wr.yes HWr.out HWo.out HEx.out HLf.out, by rw [List.length_append, List.length_cons, ← size_len]; omega⟩
                case measure => simp [intOf]; omega
              · have HEq := Lib.hid (fun b1 o1 c b2 w h0 h1 h2 => Tryd.slices_Equal_string b1 o1 xs.length c b2 0 1 1 xs [x] w (Nat.le_refl _) (Nat.le_refl _) h0 (by decide) h1 h2)
                have hdt : decide (xs.take xs.length = [x].take 1) = false := by rw [List.take_length]; simpa using he
                rw [hdt] at HEq
                clear hdt he
                go_wp2_with (first
                  | (go_at_call 37; refine (HCo.out _).mono ?_; rintro e w9 ⟨rfl, rfl⟩)
                  | (go_at_call 12
                     refine (HWd.out _).mono ?_
                     rintro e w3 ⟨v3, rfl, hv3, hb⟩
                     obtain ⟨A3, c3, rfl, q1, q2, q3⟩ := hv3
                     have HB3 := Lib.hid ((HB2.out.trans (hb.mono HB2.out.size)).alloc (HB2.out.trans (hb.mono HB2.out.size)).size (.cells #[.string x] 9))
                     have HU3 := Lib.hid (Bu.stay HU2.out (hb.alloc hb.size (.cells #[.string x] 9)))
                     obtain ⟨g3, off3, rfl, hg3, hr3⟩ := q3 (by omega)
                     have HX1 : Hid (∀ j, j < xs.length → (w3.alloc (.cells #[.string x] 9)).cell? ⟨g3, off3 + j, none⟩ = some (.string (xs.getD j ByteArray.empty))) := Lib.hid (fun j hj => by
                       have hxj : xs[j]? = some xs[j] := List.getElem?_eq_getElem hj
                       have h1 := (hr3 j _ hxj).1
                       rw [Nat.mul_one] at h1
                       have h2 := ((Below.refl w3.heap.size w3).alloc (Nat.le_refl _) (.cells #[.string x] 9)).cell (p := ⟨g3, off3 + j, none⟩) hg3.2
                       rw [h2, h1, List.getD_eq_getElem?_getD, hxj]
                       rfl)
                     have HX2 : Hid (∀ j, j < [x].length → (w3.alloc (.cells #[.string x] 9)).cell? ⟨w3.heap.size, 0 + j, none⟩ = some (.string ([x].getD j ByteArray.empty))) := Lib.hid (fun j hj => by
                       have : j = 0 := by simpa using hj
                       subst this
                       exact (Blk.new w3 9 #[.string x]).cell 0)
                     have HQ2 := Lib.hid (show xs.length ≤ 9223372036854775807 by unfold maxLen at q2; omega)
                     clear hr3 hg3
                     clear hb q1 q2 q3)
                  | (go_at_call 38
                     refine (HEq.out _ _ _ _ _ HQ2.out HX1.out HX2.out).mono ?_
                     rintro e w4 ⟨rfl, q, rfl⟩
                     have HB4 := Lib.hid (below_drewN HB3.out q)
                     have HU4 : Hid (Bu w.heap.size _ ((w3.alloc (.cells #[.string x] 9)).drewN q)) := Lib.hid (Bu.stay HU3.out (below_drewN (Below.refl _ _) q))))
                go_roundw
                case rel => exact ⟨k + 1, false, F ++ 32 :: o.data.toList, hlt, rfl, by go_num, (fun h => by cases h), HU4.out, HB4.out, by rw [HTk.out]; unfold bysL; rw [List.map_append]; exact Wr.no HWr.out, by rw [List.length_append, List.length_cons, ← size_len]; omega⟩
                case measure => simp [intOf]; omega
          · rw [hc] at HCo
            clear hc
            go_wp2_with (go_at_call 37; refine (HCo.out _).mono ?_; rintro e w9 ⟨rfl, rfl⟩)
            go_roundw
            case rel => exact ⟨k + 1, false, F ++ 32 :: o.data.toList, hlt, rfl, by go_num, (fun h => by cases h), HU2.out, HB2.out, by rw [HTk.out]; unfold bysL; rw [List.map_append]; exact Wr.no HWr.out, by rw [List.length_append, List.length_cons, ← size_len]; omega⟩
            case measure => simp [intOf]; omega
      · obtain rfl : k = l.length := by omega
        have hnl : (Lib.byteCells (46 :: name.data.toList ++ F)).length = 1 + name.size + F.length := by
          rw [Lib.byteCells_length, List.length_append, List.length_cons, ← size_len]
          omega
        have HLe := Lib.hid (Tryd.Builder_Len w.heap.size w.heap.size (Lib.byteCells (46 :: name.data.toList ++ F)) wr HU.out)
        rw [hnl] at HLe
        have HSt := Lib.hid (Tryd.Builder_String_any w.heap.size w.heap.size (46 :: name.data.toList ++ F) wr HU.out HB.out.size)
        have hwt := HWr.out
        rw [List.take_length] at hwt
        have HWt := Lib.hid hwt
        clear hnl hwt HWr
        cases hv : lineB name.data.toList
        · rw [hv] at HV
          clear hv
          go_wp2_with (go_at_call 26; refine (HV.out _).mono ?_; rintro e w1 ⟨rfl, rfl⟩)
          go_ret2
          exact ⟨⟨_, _, rfl, fun h => by cases h⟩, HB.out⟩
        · rw [hv] at HV
          have HVl := Lib.hid hv
          clear hv
          obtain ⟨N, hN⟩ : ∃ N, N = 1 + name.size + F.length := ⟨_, rfl⟩
          rw [← hN] at HLe
          by_cases hz : (N : Int) > 2000
          · go_wp2_with (first
              | (go_at_call 26; refine (HV.out _).mono ?_; rintro e w1 ⟨rfl, rfl⟩)
              | (go_at_call 39; refine HLe.out.mono ?_; rintro e w1 ⟨rfl, hw⟩; rw [hw]))
            go_ret2
            exact ⟨⟨_, _, rfl, fun h => by cases h⟩, HB.out⟩
          · cases R
            · go_wp2_with (first
                | (go_at_call 26; refine (HV.out _).mono ?_; rintro e w1 ⟨rfl, rfl⟩)
                | (go_at_call 39; refine HLe.out.mono ?_; rintro e w1 ⟨rfl, hw⟩; rw [hw]))
              go_ret2
              exact ⟨⟨_, _, rfl, fun h => by cases h⟩, HB.out⟩
            · obtain ⟨q1, q2⟩ := HR0.out (HR.out rfl)
              obtain ⟨q3, q4⟩ := HWt.out
              obtain ⟨q5, q6⟩ := q4 rfl
              have q7 := q5 [] (.inl rfl)
              rw [List.append_nil, show wdsL [] = [] from rfl, List.append_nil] at q7
              have q8 : lineB (46 :: name.data.toList ++ F) = true := line_of HVl.out q6 (by rw [List.length_append, List.length_cons, ← size_len]; omega)
              have HOk : Hid (WrOk name l ⟨(46 :: name.data.toList ++ F).toArray⟩) := Lib.hid ⟨F, rfl, q3, q1, q2, q8, q7⟩
              clear q1 q2 q3 q4 q5 q6 q7 q8
              go_wp2_with (first
                | (go_at_call 26; refine (HV.out _).mono ?_; rintro e w1 ⟨rfl, rfl⟩)
                | (go_at_call 39; refine HLe.out.mono ?_; rintro e w1 ⟨rfl, hw⟩; rw [hw])
                | (go_at_call 40; refine HSt.out.mono ?_; rintro e w1 ⟨rfl, hb⟩; have HB1 := Lib.hid (HB.out.trans hb); clear hb))
              go_ret2
              exact ⟨⟨_, _, rfl, fun _ => HOk.out⟩, HB1.out⟩
end Go.Proofs.YtfcbpehgkpmniaaDoor
