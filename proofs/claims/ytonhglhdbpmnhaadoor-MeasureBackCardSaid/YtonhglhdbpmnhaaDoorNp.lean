/- Walk: the code's Text. -/
import Derived.Test.YtonhglhdbpmnhaaDoorNo
namespace Go.Proofs.YtonhglhdbpmnhaaDoor
open Go.RowKit

/-- The four letters that a text is written in, and what one of each is. -/
def TS (c U : Nat) : Prop := (c = 117 ∧ U = 1) ∨ (c = 112 ∧ U = 10) ∨ (c = 80 ∧ U = 120) ∨ (c = 105 ∧ U = 720)
theorem TS.c28 {c U : Nat} (h : TS c U) (w : World) : Calls Tryd.prog 28 #[.int .u8 c, .agg #[.int .i64 0, .int .i64 0, .int .i64 0]] w fun e w' => e = .returned (.tuple #[.int .i64 U, .bool true]) ∧ Below w.heap.size w w' := by
  have := Go.Proofs.YtonhglhdbpmnhaaDoor.c28 c 0 0 0 w (by omega) (by omega)
  rcases h with ⟨rfl, rfl⟩ | ⟨rfl, rfl⟩ | ⟨rfl, rfl⟩ | ⟨rfl, rfl⟩ <;> exact this
theorem TS.bd {c U : Nat} (h : TS c U) : 1 ≤ U ∧ U ≤ 720 ∧ c < 128 := by unfold TS at h; omega
theorem TS.rune {c U : Nat} (h : TS c U) (w : World) : (convert 21 9 (.int .i32 c)).run Tryd.prog w = .ok (.string (b1 c)) w := by
  rcases h with ⟨rfl, rfl⟩ | ⟨rfl, rfl⟩ | ⟨rfl, rfl⟩ | ⟨rfl, rfl⟩
  all_goals
    rw [run_convert_int_string w 21 9 .i32 _ (by kernel_rfl) Tryd.underlying9]
    rfl
/-- What Text hands back. -/
def textS (n U c : Nat) : ByteArray := ⟨(txt n U c.toUInt8).toArray⟩
theorem text_eq {S T : ByteArray} {N U c : Nat} {F : List UInt8} (hS : S.data.toList = digL (N / U)) (hT : T.data.toList = F) (hF : F = fracT (fr N U)) : S ++ T ++ b1 c = textS N U c := by
  apply ByteArray.ext
  apply Array.ext'
  simp only [ByteArray.data_append, Array.toList_append, hS, hT, hF, textS, txt]
  rfl
theorem wrap64_ok {n : Int} (h1 : -9223372036854775808 ≤ n) (h2 : n ≤ 9223372036854775807) : wrap64 n = n := by unfold wrap64; omega
set_option maxRecDepth 100000 in
theorem c12g (c U N : Nat) (hT : TS c U) (hN : N ≤ 9223372036854775807) (w : World) (hP : PowAt w) :
    Calls Tryd.prog 12 #[.int .i64 N, .int .u8 c] w fun e w' => e = .returned (.tuple #[.string (textS N U c), .int .i64 0]) ∧ Below w.heap.size w w' := by
  have hb := hT.bd
  have h28 := hT.c28
  have h27 := fun w => c27 c (by omega) w
  have hr := hT.rune
  have hyes : c = 117 ∨ c = 112 ∨ c = 80 ∨ c = 105 := by unfold TS at hT; omega
  have H28 := Lib.hid h28
  have H27 := Lib.hid h27
  clear h28 h27
  have hU0 : ¬ U = 0 := by omega
  have hq0 : 0 ≤ (N : Int) / (U : Int) := Int.ediv_nonneg (by omega) (by omega)
  have hq1 : (N : Int) / (U : Int) ≤ 9223372036854775807 := by
    rw [← Int.natCast_ediv]
    have := Nat.div_le_self N U
    omega
  have hw1 : wrap64 ((N : Int) / (U : Int)) = (N : Int) / (U : Int) := wrap64_ok (by omega) (by omega)
  have hm0 : 0 ≤ (N : Int) % (U : Int) := Int.emod_nonneg _ (by omega)
  have hm1 : (N : Int) % (U : Int) < 720 := Int.lt_of_lt_of_le (Int.emod_lt_of_pos _ (by omega)) (by omega)
  have hfr : (N : Int) % (U : Int) * 10000 / (U : Int) = (fr N U : Nat) := by unfold fr; simp
  have hf1 := fr_lt N U (by omega)
  have hx0 : 0 ≤ ((N : Int) % (U : Int) * 10000 / (U : Int)) := by rw [hfr]; omega
  have hx1 : ((N : Int) % (U : Int) * 10000 / (U : Int)) < 10000 := by rw [hfr]; omega
  have hw2 : wrap64 (10000 + ((N : Int) % (U : Int) * 10000 / (U : Int))) = 10000 + ((N : Int) % (U : Int) * 10000 / (U : Int)) := wrap64_ok (by omega) (by omega)
  have hs5 : (dg (10000 + ((N : Int) % (U : Int) * 10000 / (U : Int)))).size = 5 := by
    rw [size_list, hfr]
    show (digL (10000 + (fr N U : Int)).toNat).length = 5
    rw [show (10000 + (fr N U : Int)).toNat = 10000 + fr N U by omega, dig5 _ hf1]
    rfl
  have hd4 : ((dg (10000 + ((N : Int) % (U : Int) * 10000 / (U : Int)))).extract 1 5).data.toList = d4 (fr N U) := by
    rw [ByteArray.data_extract, Array.toList_extract, List.extract_eq_take_drop, hfr]
    show ((digL (10000 + (fr N U : Int)).toNat).drop 1).take 4 = _
    rw [show (10000 + (fr N U : Int)).toNat = 10000 + fr N U by omega, dig5 _ hf1]
    rfl
  have H30 : Hid (∀ (S : ByteArray) (w : World), S.data.toList = d4 (fr N U) → Calls Tryd.prog 30 #[.string S, .string ⟨#[48]⟩] w fun e w' => (∃ T : ByteArray, e = .returned (.string T) ∧ T.data.toList = fracL (fr N U) ∧ T.size ≤ 4) ∧ w = w') :=
    Lib.hid (fun S w h => (c30 S (fr N U) h w).mono fun e w' he => ⟨⟨_, he.1, rfl, fracL_len _⟩, he.2⟩)
  have H29a : Hid (∀ w, PowAt w → Calls Tryd.prog 29 #[.int .i64 ((N : Int) / (U : Int))] w fun e w' => (∃ S : ByteArray, e = .returned (.string S) ∧ S.data.toList = digL (N / U) ∧ S.size ≤ 19) ∧ Below w.heap.size w w') :=
    Lib.hid (fun w hP => (c29 ((N : Int) / (U : Int)) hq0 hq1 w hP).mono fun e w' he => ⟨⟨_, he.1, by rw [← Int.natCast_ediv]; rfl, dg_size _ hq1⟩, he.2⟩)
  have H29b : Hid (∀ w, PowAt w → Calls Tryd.prog 29 #[.int .i64 (10000 + ((N : Int) % (U : Int) * 10000 / (U : Int)))] w fun e w' => (∃ S : ByteArray, e = .returned (.string S) ∧ S.size = 5 ∧ (S.extract 1 5).data.toList = d4 (fr N U)) ∧ Below w.heap.size w w') :=
    Lib.hid (fun w hP => (c29 (10000 + ((N : Int) % (U : Int) * 10000 / (U : Int))) (by omega) (by omega) w hP).mono fun e w' he => ⟨⟨_, he.1, hs5, hd4⟩, he.2⟩)
  clear hd4 hs5 hfr
  go_enter Tryd.func12, Tryd.ntmps12
  go_wp2_with (first
    | (go_at_call 27; refine (H27.out _).mono ?_; rintro e w1 ⟨⟨x, rfl, hx⟩, rfl⟩; have hx0 : ¬ x < 0 := fun e => hx.1 e hyes)
    | (go_at_call 28; refine (H28.out _).mono ?_; rintro e w1 ⟨rfl, hb1⟩; have hP1 := hP.below hb1)
    | (go_at_call 29; with_reducible refine (H29a.out _ hP1).mono ?_; rintro e w2 ⟨⟨S, rfl, hS, hSs⟩, hb2⟩; have hP2 := hP1.below hb2))
  refine (H29b.out _ hP2).mono ?_
  rintro e w3 ⟨⟨S5, rfl, hs5, hd4⟩, hb3⟩
  have H30' := Lib.hid (fun w => H30.out _ w hd4)
  clear H29a H29b H30 hq0 hq1 hw1 hw2 hm0 hm1 hx0 hx1 hd4 H27 H28 hx
  have hbs := b1_size c
  go_wp2_with (go_at_call 30; refine (H30'.out _).mono ?_; rintro e w' ⟨⟨T, rfl, hT', hTs⟩, rfl⟩)
  · have hX : fracL (fr N U) ≠ [] := by
      intro e
      rw [e] at hT'
      have h0 : T.toList = [] := by rw [Lib.toList_data, hT']
      simp_all
    have hE : S ++ ((⟨#[46]⟩ : ByteArray) ++ T) ++ b1 c = textS N U c := text_eq (F := 46 :: T.data.toList) hS (by simp only [ByteArray.data_append, Array.toList_append]; rfl) (by rw [hT', fracT, if_neg hX])
    rw [← hE]
    go_ret2
    exact ⟨rfl, ntrans (ntrans hb1 hb2) hb3⟩
  · have hX : fracL (fr N U) = [] := by
      have h0 : T.toList = [] := by simp_all
      rw [Lib.toList_data, hT'] at h0
      exact h0
    have hE : S ++ b1 c = textS N U c := by
      have := text_eq (S := S) (c := c) (T := ⟨#[]⟩) (F := []) hS rfl (by rw [fracT, if_pos hX])
      rw [← this]
      congr 1
      apply ByteArray.ext
      simp [ByteArray.data_append]
    rw [← hE]
    go_ret2
    exact ⟨rfl, ntrans (ntrans hb1 hb2) hb3⟩
end Go.Proofs.YtonhglhdbpmnhaaDoor
