/- Walk: the document's Text. -/
import Derived.Test.YtonhglhdbpmnhaaDoorNp
namespace Go.Proofs.YtonhglhdbpmnhaaDoor
open Go.RowKit

theorem TS.n31 {c U : Nat} (h : TS c U) (w : World) : Calls Tryd.prog 31 #[.int .u8 c, .agg #[.int .i64 0, .int .i64 0, .int .i64 0]] w fun e w' => e = .returned (.int .i64 U) ∧ Below w.heap.size w w' := by
  have := Go.Proofs.YtonhglhdbpmnhaaDoor.n31 c 0 0 0 w (by omega) (by omega)
  rcases h with ⟨rfl, rfl⟩ | ⟨rfl, rfl⟩ | ⟨rfl, rfl⟩ | ⟨rfl, rfl⟩ <;> exact this
theorem last_cut {P : ByteArray} (h : 0 < P.size) : P.data.toList = (P.extract 0 (P.size - 1)).data.toList ++ [P[P.size - 1]'(by omega)] := by
  have hl : P.size - 1 < P.data.toList.length := by rw [← size_list]; omega
  rw [ByteArray.data_extract, Array.toList_extract, List.extract_eq_take_drop, List.drop_zero]
  have : P[P.size - 1]'(by omega) = P.data.toList[P.size - 1]'hl := rfl
  rw [this, Nat.sub_zero, ← List.take_succ_eq_append_getElem hl, List.take_of_length_le (by rw [← size_list]; omega)]
theorem trimP_eq {P : ByteArray} (h : 0 < P.size) (hl : (P[P.size - 1]'(by omega)).toNat = 48) : Lib.trimRightB (P.extract 0 (P.size - 1)).data.toList 48 = Lib.trimRightB P.data.toList 48 := by
  have hb : P[P.size - 1]'(by omega) = 48 := UInt8.toNat_inj.1 hl
  rw [last_cut h, hb, trim_snoc]
theorem trimP_ne {P : ByteArray} (h : 0 < P.size) (hl : ¬ (P[P.size - 1]'(by omega)).toNat = 48) : Lib.trimRightB P.data.toList 48 = P.data.toList := by
  have hb : P[P.size - 1]'(by omega) ≠ 48 := fun e => hl (by rw [e]; rfl)
  have hc := last_cut h
  rw [hc, trim_stop _ _ _ hb]
theorem text_eq0 {S : ByteArray} {N U c : Nat} (hS : S.data.toList = digL (N / U)) (hX : fracL (fr N U) = []) : S ++ b1 c = textS N U c := by
  have := text_eq (S := S) (c := c) (T := ⟨#[]⟩) (F := []) hS rfl (by rw [fracT, if_pos hX])
  rw [← this]
  congr 1
  apply ByteArray.ext
  simp [ByteArray.data_append]
/-- What is left of a part when some zeros at its end are struck. -/
def R14 (r : Nat) (v9 : Value) : Prop := ∃ S : ByteArray, v9 = .string S ∧ S.size ≤ 4 ∧ Lib.trimRightB S.data.toList 48 = fracL r
set_option maxRecDepth 100000 in
set_option maxHeartbeats 1000000 in
theorem n14_117 (U N : Nat) (hT : TS 117 U) (hN : N ≤ 9223372036854775807) (w : World) :
    Calls Tryd.prog 14 #[.int .i64 N, .int .u8 117] w fun e w' => e = .returned (.tuple #[.string (textS N U 117), .int .i64 0]) ∧ Below w.heap.size w w' := by
  have hb := hT.bd
  have H31 : Hid (∀ w, Calls Tryd.prog 31 #[.int .u8 117, .agg #[.int .i64 0, .int .i64 0, .int .i64 0]] w fun e w' => e = .returned (.int .i64 U) ∧ Below w.heap.size w w') := Lib.hid (fun w => hT.n31 w)
  have hU0 : ¬ U = 0 := by omega
  clear hT
  have hq0 : 0 ≤ (N : Int) / (U : Int) := Int.ediv_nonneg (by omega) (by omega)
  have hq1 : (N : Int) / (U : Int) ≤ 9223372036854775807 := by
    rw [← Int.natCast_ediv]
    have := Nat.div_le_self N U
    omega
  have hw1 : wrap64 ((N : Int) / (U : Int)) = (N : Int) / (U : Int) := wrap64_ok (by omega) (by omega)
  have hm0 : 0 ≤ (N : Int) % (U : Int) := Int.emod_nonneg _ (by omega)
  have hm1 : (N : Int) % (U : Int) < 720 := Int.lt_of_lt_of_le (Int.emod_lt_of_pos _ (by omega)) (by omega)
  have hfr : (N : Int) % (U : Int) * 10000 / (U : Int) = (fr N U : Nat) := by unfold fr; simp
  have hf1 := fr_lt N U (by omega)
  have hx0 : 0 ≤ ((N : Int) % (U : Int) * 10000 / (U : Int)) := by rw [hfr]; omega
  have hx1 : ((N : Int) % (U : Int) * 10000 / (U : Int)) < 10000 := by rw [hfr]; omega
  have hw2 : wrap64 (10000 + ((N : Int) % (U : Int) * 10000 / (U : Int))) = 10000 + ((N : Int) % (U : Int) * 10000 / (U : Int)) := wrap64_ok (by omega) (by omega)
  have hs5 : (dg (10000 + ((N : Int) % (U : Int) * 10000 / (U : Int)))).size = 5 := by
    rw [size_list, hfr]
    show (digL (10000 + (fr N U : Int)).toNat).length = 5
    rw [show (10000 + (fr N U : Int)).toNat = 10000 + fr N U by omega, dig5 _ hf1]
    rfl
  have hd4 : ((dg (10000 + ((N : Int) % (U : Int) * 10000 / (U : Int)))).extract 1 5).data.toList = d4 (fr N U) := by
    rw [ByteArray.data_extract, Array.toList_extract, List.extract_eq_take_drop, hfr]
    show ((digL (10000 + (fr N U : Int)).toNat).drop 1).take 4 = _
    rw [show (10000 + (fr N U : Int)).toNat = 10000 + fr N U by omega, dig5 _ hf1]
    rfl
  have hpos : 0 < ((N : Int) % (U : Int) * 10000 / (U : Int)) → 0 < fr N U := fun h => by rw [hfr] at h; omega
  have hzero : ¬ 0 < ((N : Int) % (U : Int) * 10000 / (U : Int)) → fr N U = 0 := fun h => by rw [hfr] at h; omega
  have Hpos := Lib.hid hpos
  have Hzero := Lib.hid hzero
  have H19b : Hid (∀ w, Calls Tryd.prog 19 #[.int .i64 (10000 + ((N : Int) % (U : Int) * 10000 / (U : Int)))] w fun e w' => (∃ S : ByteArray, e = .returned (.string S) ∧ S.size = 5 ∧ (S.extract 1 5).data.toList = d4 (fr N U)) ∧ Below w.heap.size w w') :=
    Lib.hid (fun w => (n19i (10000 + ((N : Int) % (U : Int) * 10000 / (U : Int))) (by omega) (by omega) w).mono fun e w' he => ⟨⟨_, he.1, hs5, hd4⟩, he.2⟩)
  clear hpos hzero hs5 hd4
  have H19a : Hid (∀ w, Calls Tryd.prog 19 #[.int .i64 ((N : Int) / (U : Int))] w fun e w' => (∃ S : ByteArray, e = .returned (.string S) ∧ S.data.toList = digL (N / U) ∧ S.size ≤ 19) ∧ Below w.heap.size w w') :=
    Lib.hid (fun w => (n19i ((N : Int) / (U : Int)) hq0 hq1 w).mono fun e w' he => ⟨⟨_, he.1, by rw [← Int.natCast_ediv]; rfl, dg_size _ hq1⟩, he.2⟩)
  clear hfr
  have kc := kB
  have hbs := b1_size 117
  go_enter Tryd.func14, Tryd.ntmps14
  go_wp2_with (first
    | (go_at_call 31; refine (H31.out _).mono ?_; rintro e w1 ⟨rfl, hb1⟩)
    | (go_at_call 19; with_reducible refine (H19a.out _).mono ?_; rintro e w2 ⟨⟨S, rfl, hS, hSs⟩, hb2⟩)
    | (go_at_call 19; with_reducible refine (H19b.out _).mono ?_; rintro e w3 ⟨⟨S5, rfl, hs5, hd4⟩, hb3⟩))
  · have hfp := Hpos.out (by assumption)
    have hne : fracL (fr N U) ≠ [] := fracL_pos hfp hf1
    clear hq0 hq1 hw1 hw2 hm0 hm1 hx0 hx1
    go_loop [9] (fun v9 => R14 (fr N U) v9) (fun v9 => Lib.strSize v9)
    case atStart => exact ⟨_, rfl, by rw [size_list, hd4]; exact Nat.le_refl _, by rw [hd4]; rfl⟩
    case round =>
      obtain ⟨P, rfl, hP4, hPt⟩ := hrel
      have hP0 : 0 < P.size := by
        rcases Nat.eq_zero_or_pos P.size with h | h
        · rw [size_list, List.length_eq_zero_iff] at h
          rw [h] at hPt
          exact absurd hPt.symm hne
        · exact h
      go_wp2
      · have hl : (((P[P.size - 1]'(by omega)).toNat : Int) == 48) = true := by assumption
        go_round
        case rel => exact ⟨_, rfl, by rw [ByteArray.size_extract]; omega, (trimP_eq hP0 (by simp at hl; omega)).trans hPt⟩
        case measure =>
          show (P.extract 0 (P.size - 1)).size < P.size
          rw [ByteArray.size_extract]; omega
      · have hl : (((P[P.size - 1]'(by omega)).toNat : Int) == 48) = false := by assumption
        have hPt' := trimP_ne hP0 (by simp at hl; omega)
        rw [hPt] at hPt'
        have hE : S ++ ((⟨#[46]⟩ : ByteArray) ++ P) ++ b1 117 = textS N U 117 := text_eq (F := 46 :: P.data.toList) hS (by simp only [ByteArray.data_append, Array.toList_append]; rfl) (by rw [← hPt', fracT, if_neg hne])
        rw [← hE]
        go_ret2
        exact ⟨rfl, nalloc (ntrans (ntrans hb1 hb2) hb3) _⟩
  · have hfz := Hzero.out (by assumption)
    have hE : S ++ b1 117 = textS N U 117 := text_eq0 hS (by rw [hfz]; exact fracL_0)
    rw [← hE]
    go_ret2
    exact ⟨rfl, nalloc (ntrans hb1 hb2) _⟩
set_option maxRecDepth 100000 in
set_option maxHeartbeats 1000000 in
theorem n14_112 (U N : Nat) (hT : TS 112 U) (hN : N ≤ 9223372036854775807) (w : World) :
    Calls Tryd.prog 14 #[.int .i64 N, .int .u8 112] w fun e w' => e = .returned (.tuple #[.string (textS N U 112), .int .i64 0]) ∧ Below w.heap.size w w' := by
  have hb := hT.bd
  have H31 : Hid (∀ w, Calls Tryd.prog 31 #[.int .u8 112, .agg #[.int .i64 0, .int .i64 0, .int .i64 0]] w fun e w' => e = .returned (.int .i64 U) ∧ Below w.heap.size w w') := Lib.hid (fun w => hT.n31 w)
  have hU0 : ¬ U = 0 := by omega
  clear hT
  have hq0 : 0 ≤ (N : Int) / (U : Int) := Int.ediv_nonneg (by omega) (by omega)
  have hq1 : (N : Int) / (U : Int) ≤ 9223372036854775807 := by
    rw [← Int.natCast_ediv]
    have := Nat.div_le_self N U
    omega
  have hw1 : wrap64 ((N : Int) / (U : Int)) = (N : Int) / (U : Int) := wrap64_ok (by omega) (by omega)
  have hm0 : 0 ≤ (N : Int) % (U : Int) := Int.emod_nonneg _ (by omega)
  have hm1 : (N : Int) % (U : Int) < 720 := Int.lt_of_lt_of_le (Int.emod_lt_of_pos _ (by omega)) (by omega)
  have hfr : (N : Int) % (U : Int) * 10000 / (U : Int) = (fr N U : Nat) := by unfold fr; simp
  have hf1 := fr_lt N U (by omega)
  have hx0 : 0 ≤ ((N : Int) % (U : Int) * 10000 / (U : Int)) := by rw [hfr]; omega
  have hx1 : ((N : Int) % (U : Int) * 10000 / (U : Int)) < 10000 := by rw [hfr]; omega
  have hw2 : wrap64 (10000 + ((N : Int) % (U : Int) * 10000 / (U : Int))) = 10000 + ((N : Int) % (U : Int) * 10000 / (U : Int)) := wrap64_ok (by omega) (by omega)
  have hs5 : (dg (10000 + ((N : Int) % (U : Int) * 10000 / (U : Int)))).size = 5 := by
    rw [size_list, hfr]
    show (digL (10000 + (fr N U : Int)).toNat).length = 5
    rw [show (10000 + (fr N U : Int)).toNat = 10000 + fr N U by omega, dig5 _ hf1]
    rfl
  have hd4 : ((dg (10000 + ((N : Int) % (U : Int) * 10000 / (U : Int)))).extract 1 5).data.toList = d4 (fr N U) := by
    rw [ByteArray.data_extract, Array.toList_extract, List.extract_eq_take_drop, hfr]
    show ((digL (10000 + (fr N U : Int)).toNat).drop 1).take 4 = _
    rw [show (10000 + (fr N U : Int)).toNat = 10000 + fr N U by omega, dig5 _ hf1]
    rfl
  have hpos : 0 < ((N : Int) % (U : Int) * 10000 / (U : Int)) → 0 < fr N U := fun h => by rw [hfr] at h; omega
  have hzero : ¬ 0 < ((N : Int) % (U : Int) * 10000 / (U : Int)) → fr N U = 0 := fun h => by rw [hfr] at h; omega
  have Hpos := Lib.hid hpos
  have Hzero := Lib.hid hzero
  have H19b : Hid (∀ w, Calls Tryd.prog 19 #[.int .i64 (10000 + ((N : Int) % (U : Int) * 10000 / (U : Int)))] w fun e w' => (∃ S : ByteArray, e = .returned (.string S) ∧ S.size = 5 ∧ (S.extract 1 5).data.toList = d4 (fr N U)) ∧ Below w.heap.size w w') :=
    Lib.hid (fun w => (n19i (10000 + ((N : Int) % (U : Int) * 10000 / (U : Int))) (by omega) (by omega) w).mono fun e w' he => ⟨⟨_, he.1, hs5, hd4⟩, he.2⟩)
  clear hpos hzero hs5 hd4
  have H19a : Hid (∀ w, Calls Tryd.prog 19 #[.int .i64 ((N : Int) / (U : Int))] w fun e w' => (∃ S : ByteArray, e = .returned (.string S) ∧ S.data.toList = digL (N / U) ∧ S.size ≤ 19) ∧ Below w.heap.size w w') :=
    Lib.hid (fun w => (n19i ((N : Int) / (U : Int)) hq0 hq1 w).mono fun e w' he => ⟨⟨_, he.1, by rw [← Int.natCast_ediv]; rfl, dg_size _ hq1⟩, he.2⟩)
  clear hfr
  have kc := kB
  have hbs := b1_size 112
  go_enter Tryd.func14, Tryd.ntmps14
  go_wp2_with (first
    | (go_at_call 31; refine (H31.out _).mono ?_; rintro e w1 ⟨rfl, hb1⟩)
    | (go_at_call 19; with_reducible refine (H19a.out _).mono ?_; rintro e w2 ⟨⟨S, rfl, hS, hSs⟩, hb2⟩)
    | (go_at_call 19; with_reducible refine (H19b.out _).mono ?_; rintro e w3 ⟨⟨S5, rfl, hs5, hd4⟩, hb3⟩))
  · have hfp := Hpos.out (by assumption)
    have hne : fracL (fr N U) ≠ [] := fracL_pos hfp hf1
    clear hq0 hq1 hw1 hw2 hm0 hm1 hx0 hx1
    go_loop [9] (fun v9 => R14 (fr N U) v9) (fun v9 => Lib.strSize v9)
    case atStart => exact ⟨_, rfl, by rw [size_list, hd4]; exact Nat.le_refl _, by rw [hd4]; rfl⟩
    case round =>
      obtain ⟨P, rfl, hP4, hPt⟩ := hrel
      have hP0 : 0 < P.size := by
        rcases Nat.eq_zero_or_pos P.size with h | h
        · rw [size_list, List.length_eq_zero_iff] at h
          rw [h] at hPt
          exact absurd hPt.symm hne
        · exact h
      go_wp2
      · have hl : (((P[P.size - 1]'(by omega)).toNat : Int) == 48) = true := by assumption
        go_round
        case rel => exact ⟨_, rfl, by rw [ByteArray.size_extract]; omega, (trimP_eq hP0 (by simp at hl; omega)).trans hPt⟩
        case measure =>
          show (P.extract 0 (P.size - 1)).size < P.size
          rw [ByteArray.size_extract]; omega
      · have hl : (((P[P.size - 1]'(by omega)).toNat : Int) == 48) = false := by assumption
        have hPt' := trimP_ne hP0 (by simp at hl; omega)
        rw [hPt] at hPt'
        have hE : S ++ ((⟨#[46]⟩ : ByteArray) ++ P) ++ b1 112 = textS N U 112 := text_eq (F := 46 :: P.data.toList) hS (by simp only [ByteArray.data_append, Array.toList_append]; rfl) (by rw [← hPt', fracT, if_neg hne])
        rw [← hE]
        go_ret2
        exact ⟨rfl, nalloc (ntrans (ntrans hb1 hb2) hb3) _⟩
  · have hfz := Hzero.out (by assumption)
    have hE : S ++ b1 112 = textS N U 112 := text_eq0 hS (by rw [hfz]; exact fracL_0)
    rw [← hE]
    go_ret2
    exact ⟨rfl, nalloc (ntrans hb1 hb2) _⟩
set_option maxRecDepth 100000 in
set_option maxHeartbeats 1000000 in
theorem n14_80 (U N : Nat) (hT : TS 80 U) (hN : N ≤ 9223372036854775807) (w : World) :
    Calls Tryd.prog 14 #[.int .i64 N, .int .u8 80] w fun e w' => e = .returned (.tuple #[.string (textS N U 80), .int .i64 0]) ∧ Below w.heap.size w w' := by
  have hb := hT.bd
  have H31 : Hid (∀ w, Calls Tryd.prog 31 #[.int .u8 80, .agg #[.int .i64 0, .int .i64 0, .int .i64 0]] w fun e w' => e = .returned (.int .i64 U) ∧ Below w.heap.size w w') := Lib.hid (fun w => hT.n31 w)
  have hU0 : ¬ U = 0 := by omega
  clear hT
  have hq0 : 0 ≤ (N : Int) / (U : Int) := Int.ediv_nonneg (by omega) (by omega)
  have hq1 : (N : Int) / (U : Int) ≤ 9223372036854775807 := by
    rw [← Int.natCast_ediv]
    have := Nat.div_le_self N U
    omega
  have hw1 : wrap64 ((N : Int) / (U : Int)) = (N : Int) / (U : Int) := wrap64_ok (by omega) (by omega)
  have hm0 : 0 ≤ (N : Int) % (U : Int) := Int.emod_nonneg _ (by omega)
  have hm1 : (N : Int) % (U : Int) < 720 := Int.lt_of_lt_of_le (Int.emod_lt_of_pos _ (by omega)) (by omega)
  have hfr : (N : Int) % (U : Int) * 10000 / (U : Int) = (fr N U : Nat) := by unfold fr; simp
  have hf1 := fr_lt N U (by omega)
  have hx0 : 0 ≤ ((N : Int) % (U : Int) * 10000 / (U : Int)) := by rw [hfr]; omega
  have hx1 : ((N : Int) % (U : Int) * 10000 / (U : Int)) < 10000 := by rw [hfr]; omega
  have hw2 : wrap64 (10000 + ((N : Int) % (U : Int) * 10000 / (U : Int))) = 10000 + ((N : Int) % (U : Int) * 10000 / (U : Int)) := wrap64_ok (by omega) (by omega)
  have hs5 : (dg (10000 + ((N : Int) % (U : Int) * 10000 / (U : Int)))).size = 5 := by
    rw [size_list, hfr]
    show (digL (10000 + (fr N U : Int)).toNat).length = 5
    rw [show (10000 + (fr N U : Int)).toNat = 10000 + fr N U by omega, dig5 _ hf1]
    rfl
  have hd4 : ((dg (10000 + ((N : Int) % (U : Int) * 10000 / (U : Int)))).extract 1 5).data.toList = d4 (fr N U) := by
    rw [ByteArray.data_extract, Array.toList_extract, List.extract_eq_take_drop, hfr]
    show ((digL (10000 + (fr N U : Int)).toNat).drop 1).take 4 = _
    rw [show (10000 + (fr N U : Int)).toNat = 10000 + fr N U by omega, dig5 _ hf1]
    rfl
  have hpos : 0 < ((N : Int) % (U : Int) * 10000 / (U : Int)) → 0 < fr N U := fun h => by rw [hfr] at h; omega
  have hzero : ¬ 0 < ((N : Int) % (U : Int) * 10000 / (U : Int)) → fr N U = 0 := fun h => by rw [hfr] at h; omega
  have Hpos := Lib.hid hpos
  have Hzero := Lib.hid hzero
  have H19b : Hid (∀ w, Calls Tryd.prog 19 #[.int .i64 (10000 + ((N : Int) % (U : Int) * 10000 / (U : Int)))] w fun e w' => (∃ S : ByteArray, e = .returned (.string S) ∧ S.size = 5 ∧ (S.extract 1 5).data.toList = d4 (fr N U)) ∧ Below w.heap.size w w') :=
    Lib.hid (fun w => (n19i (10000 + ((N : Int) % (U : Int) * 10000 / (U : Int))) (by omega) (by omega) w).mono fun e w' he => ⟨⟨_, he.1, hs5, hd4⟩, he.2⟩)
  clear hpos hzero hs5 hd4
  have H19a : Hid (∀ w, Calls Tryd.prog 19 #[.int .i64 ((N : Int) / (U : Int))] w fun e w' => (∃ S : ByteArray, e = .returned (.string S) ∧ S.data.toList = digL (N / U) ∧ S.size ≤ 19) ∧ Below w.heap.size w w') :=
    Lib.hid (fun w => (n19i ((N : Int) / (U : Int)) hq0 hq1 w).mono fun e w' he => ⟨⟨_, he.1, by rw [← Int.natCast_ediv]; rfl, dg_size _ hq1⟩, he.2⟩)
  clear hfr
  have kc := kB
  have hbs := b1_size 80
  go_enter Tryd.func14, Tryd.ntmps14
  go_wp2_with (first
    | (go_at_call 31; refine (H31.out _).mono ?_; rintro e w1 ⟨rfl, hb1⟩)
    | (go_at_call 19; with_reducible refine (H19a.out _).mono ?_; rintro e w2 ⟨⟨S, rfl, hS, hSs⟩, hb2⟩)
    | (go_at_call 19; with_reducible refine (H19b.out _).mono ?_; rintro e w3 ⟨⟨S5, rfl, hs5, hd4⟩, hb3⟩))
  · have hfp := Hpos.out (by assumption)
    have hne : fracL (fr N U) ≠ [] := fracL_pos hfp hf1
    clear hq0 hq1 hw1 hw2 hm0 hm1 hx0 hx1
    go_loop [9] (fun v9 => R14 (fr N U) v9) (fun v9 => Lib.strSize v9)
    case atStart => exact ⟨_, rfl, by rw [size_list, hd4]; exact Nat.le_refl _, by rw [hd4]; rfl⟩
    case round =>
      obtain ⟨P, rfl, hP4, hPt⟩ := hrel
      have hP0 : 0 < P.size := by
        rcases Nat.eq_zero_or_pos P.size with h | h
        · rw [size_list, List.length_eq_zero_iff] at h
          rw [h] at hPt
          exact absurd hPt.symm hne
        · exact h
      go_wp2
      · have hl : (((P[P.size - 1]'(by omega)).toNat : Int) == 48) = true := by assumption
        go_round
        case rel => exact ⟨_, rfl, by rw [ByteArray.size_extract]; omega, (trimP_eq hP0 (by simp at hl; omega)).trans hPt⟩
        case measure =>
          show (P.extract 0 (P.size - 1)).size < P.size
          rw [ByteArray.size_extract]; omega
      · have hl : (((P[P.size - 1]'(by omega)).toNat : Int) == 48) = false := by assumption
        have hPt' := trimP_ne hP0 (by simp at hl; omega)
        rw [hPt] at hPt'
        have hE : S ++ ((⟨#[46]⟩ : ByteArray) ++ P) ++ b1 80 = textS N U 80 := text_eq (F := 46 :: P.data.toList) hS (by simp only [ByteArray.data_append, Array.toList_append]; rfl) (by rw [← hPt', fracT, if_neg hne])
        rw [← hE]
        go_ret2
        exact ⟨rfl, nalloc (ntrans (ntrans hb1 hb2) hb3) _⟩
  · have hfz := Hzero.out (by assumption)
    have hE : S ++ b1 80 = textS N U 80 := text_eq0 hS (by rw [hfz]; exact fracL_0)
    rw [← hE]
    go_ret2
    exact ⟨rfl, nalloc (ntrans hb1 hb2) _⟩
set_option maxRecDepth 100000 in
set_option maxHeartbeats 1000000 in
theorem n14_105 (U N : Nat) (hT : TS 105 U) (hN : N ≤ 9223372036854775807) (w : World) :
    Calls Tryd.prog 14 #[.int .i64 N, .int .u8 105] w fun e w' => e = .returned (.tuple #[.string (textS N U 105), .int .i64 0]) ∧ Below w.heap.size w w' := by
  have hb := hT.bd
  have H31 : Hid (∀ w, Calls Tryd.prog 31 #[.int .u8 105, .agg #[.int .i64 0, .int .i64 0, .int .i64 0]] w fun e w' => e = .returned (.int .i64 U) ∧ Below w.heap.size w w') := Lib.hid (fun w => hT.n31 w)
  have hU0 : ¬ U = 0 := by omega
  clear hT
  have hq0 : 0 ≤ (N : Int) / (U : Int) := Int.ediv_nonneg (by omega) (by omega)
  have hq1 : (N : Int) / (U : Int) ≤ 9223372036854775807 := by
    rw [← Int.natCast_ediv]
    have := Nat.div_le_self N U
    omega
  have hw1 : wrap64 ((N : Int) / (U : Int)) = (N : Int) / (U : Int) := wrap64_ok (by omega) (by omega)
  have hm0 : 0 ≤ (N : Int) % (U : Int) := Int.emod_nonneg _ (by omega)
  have hm1 : (N : Int) % (U : Int) < 720 := Int.lt_of_lt_of_le (Int.emod_lt_of_pos _ (by omega)) (by omega)
  have hfr : (N : Int) % (U : Int) * 10000 / (U : Int) = (fr N U : Nat) := by unfold fr; simp
  have hf1 := fr_lt N U (by omega)
  have hx0 : 0 ≤ ((N : Int) % (U : Int) * 10000 / (U : Int)) := by rw [hfr]; omega
  have hx1 : ((N : Int) % (U : Int) * 10000 / (U : Int)) < 10000 := by rw [hfr]; omega
  have hw2 : wrap64 (10000 + ((N : Int) % (U : Int) * 10000 / (U : Int))) = 10000 + ((N : Int) % (U : Int) * 10000 / (U : Int)) := wrap64_ok (by omega) (by omega)
  have hs5 : (dg (10000 + ((N : Int) % (U : Int) * 10000 / (U : Int)))).size = 5 := by
    rw [size_list, hfr]
    show (digL (10000 + (fr N U : Int)).toNat).length = 5
    rw [show (10000 + (fr N U : Int)).toNat = 10000 + fr N U by omega, dig5 _ hf1]
    rfl
  have hd4 : ((dg (10000 + ((N : Int) % (U : Int) * 10000 / (U : Int)))).extract 1 5).data.toList = d4 (fr N U) := by
    rw [ByteArray.data_extract, Array.toList_extract, List.extract_eq_take_drop, hfr]
    show ((digL (10000 + (fr N U : Int)).toNat).drop 1).take 4 = _
    rw [show (10000 + (fr N U : Int)).toNat = 10000 + fr N U by omega, dig5 _ hf1]
    rfl
  have hpos : 0 < ((N : Int) % (U : Int) * 10000 / (U : Int)) → 0 < fr N U := fun h => by rw [hfr] at h; omega
  have hzero : ¬ 0 < ((N : Int) % (U : Int) * 10000 / (U : Int)) → fr N U = 0 := fun h => by rw [hfr] at h; omega
  have Hpos := Lib.hid hpos
  have Hzero := Lib.hid hzero
  have H19b : Hid (∀ w, Calls Tryd.prog 19 #[.int .i64 (10000 + ((N : Int) % (U : Int) * 10000 / (U : Int)))] w fun e w' => (∃ S : ByteArray, e = .returned (.string S) ∧ S.size = 5 ∧ (S.extract 1 5).data.toList = d4 (fr N U)) ∧ Below w.heap.size w w') :=
    Lib.hid (fun w => (n19i (10000 + ((N : Int) % (U : Int) * 10000 / (U : Int))) (by omega) (by omega) w).mono fun e w' he => ⟨⟨_, he.1, hs5, hd4⟩, he.2⟩)
  clear hpos hzero hs5 hd4
  have H19a : Hid (∀ w, Calls Tryd.prog 19 #[.int .i64 ((N : Int) / (U : Int))] w fun e w' => (∃ S : ByteArray, e = .returned (.string S) ∧ S.data.toList = digL (N / U) ∧ S.size ≤ 19) ∧ Below w.heap.size w w') :=
    Lib.hid (fun w => (n19i ((N : Int) / (U : Int)) hq0 hq1 w).mono fun e w' he => ⟨⟨_, he.1, by rw [← Int.natCast_ediv]; rfl, dg_size _ hq1⟩, he.2⟩)
  clear hfr
  have kc := kB
  have hbs := b1_size 105
  go_enter Tryd.func14, Tryd.ntmps14
  go_wp2_with (first
    | (go_at_call 31; refine (H31.out _).mono ?_; rintro e w1 ⟨rfl, hb1⟩)
    | (go_at_call 19; with_reducible refine (H19a.out _).mono ?_; rintro e w2 ⟨⟨S, rfl, hS, hSs⟩, hb2⟩)
    | (go_at_call 19; with_reducible refine (H19b.out _).mono ?_; rintro e w3 ⟨⟨S5, rfl, hs5, hd4⟩, hb3⟩))
  · have hfp := Hpos.out (by assumption)
    have hne : fracL (fr N U) ≠ [] := fracL_pos hfp hf1
    clear hq0 hq1 hw1 hw2 hm0 hm1 hx0 hx1
    go_loop [9] (fun v9 => R14 (fr N U) v9) (fun v9 => Lib.strSize v9)
    case atStart => exact ⟨_, rfl, by rw [size_list, hd4]; exact Nat.le_refl _, by rw [hd4]; rfl⟩
    case round =>
      obtain ⟨P, rfl, hP4, hPt⟩ := hrel
      have hP0 : 0 < P.size := by
        rcases Nat.eq_zero_or_pos P.size with h | h
        · rw [size_list, List.length_eq_zero_iff] at h
          rw [h] at hPt
          exact absurd hPt.symm hne
        · exact h
      go_wp2
      · have hl : (((P[P.size - 1]'(by omega)).toNat : Int) == 48) = true := by assumption
        go_round
        case rel => exact ⟨_, rfl, by rw [ByteArray.size_extract]; omega, (trimP_eq hP0 (by simp at hl; omega)).trans hPt⟩
        case measure =>
          show (P.extract 0 (P.size - 1)).size < P.size
          rw [ByteArray.size_extract]; omega
      · have hl : (((P[P.size - 1]'(by omega)).toNat : Int) == 48) = false := by assumption
        have hPt' := trimP_ne hP0 (by simp at hl; omega)
        rw [hPt] at hPt'
        have hE : S ++ ((⟨#[46]⟩ : ByteArray) ++ P) ++ b1 105 = textS N U 105 := text_eq (F := 46 :: P.data.toList) hS (by simp only [ByteArray.data_append, Array.toList_append]; rfl) (by rw [← hPt', fracT, if_neg hne])
        rw [← hE]
        go_ret2
        exact ⟨rfl, nalloc (ntrans (ntrans hb1 hb2) hb3) _⟩
  · have hfz := Hzero.out (by assumption)
    have hE : S ++ b1 105 = textS N U 105 := text_eq0 hS (by rw [hfz]; exact fracL_0)
    rw [← hE]
    go_ret2
    exact ⟨rfl, nalloc (ntrans hb1 hb2) _⟩
end Go.Proofs.YtonhglhdbpmnhaaDoor
