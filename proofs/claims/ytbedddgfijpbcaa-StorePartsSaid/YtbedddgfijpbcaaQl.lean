/- Walks: the document's IsText; the statement on parts. -/
import Derived.Test.YtbedddgfijpbcaaQk
namespace Go.Proofs.Ytbedddgfijpbcaa
open Go.RowKit Go.Maps Go.WideMaps

theorem ib_any : ∀ l : List UInt8, decide (0 ≤ Lib.indexByte l 10) = l.any (· == 10)
  | [] => rfl
  | b :: l => by
    have ih := ib_any l
    have hg := Lib.indexByte_ge l 10
    have e : Lib.indexByte (b :: l) 10 = if b == 10 then 0 else if Lib.indexByte l 10 == -1 then -1 else Lib.indexByte l 10 + 1 := rfl
    rw [List.any_cons, ← ih, e]
    clear e ih
    split
    · rename_i h
      rw [h]; rfl
    · rename_i h
      rw [show (b == 10) = false by simpa using h, Bool.false_or]
      split
      · rename_i h2
        have h2 : Lib.indexByte l 10 = -1 := by simpa using h2
        rw [h2]
      · rename_i h2
        have h2 : Lib.indexByte l 10 ≠ -1 := by simpa using h2
        exact decide_eq_decide.2 (by omega)
theorem noLf_all (s : ByteArray) : noLf s = allB (fun c => decide (c ≠ 10)) s := by
  unfold noLf allB
  rw [ib_any]
  induction s.data.toList with
  | nil => rfl
  | cons b l ih =>
    rw [List.any_cons, List.all_cons, ← ih, Bool.not_or]
    congr 1
    rw [Bool.eq_iff_iff]
    simp only [Bool.not_eq_true', beq_eq_false_iff_ne, ne_eq, decide_eq_true_eq]
    constructor
    · intro h e
      exact h (UInt8.toNat_inj.1 e)
    · intro h e
      exact h (by rw [e]; rfl)
/-- The document's IsText. -/
theorem nText (s : ByteArray) (hs : s.size ≤ maxLen) (w : World) :
    Calls Try.prog 8 #[.string s] w fun e w' => e = .returned (.bool (textB s)) ∧ w = w' := by
  unfold maxLen at hs
  go_enter Try.func8, Try.ntmps8
  go_wp2
  go_loop [3] (fun v3 => ∃ k : Nat, k ≤ s.size ∧ v3 = .int .i64 k ∧ ∀ (j : Nat) (hj : j < s.size), j < k → decide (s[j].toNat ≠ 10) = true) (fun v3 => s.size - (intOf v3).toNat)
  case atStart => exact ⟨0, Nat.zero_le _, rfl, fun j hj h => by omega⟩
  case round =>
    obtain ⟨k, hk, rfl, hb⟩ := hrel
    have HB := Lib.hid hb
    clear hb
    by_cases hlt : k < s.size
    · by_cases h3 : (s[k].toNat : Int) = 10
      · have hf : textB s = false := by
          unfold textB
          rw [noLf_all, allB_no k hlt (by
            have : s[k].toNat = 10 := by omega
            rw [this]; rfl)]; simp
        have hB : ((s[k].toNat : Int) == 10) = true := by simp [h3]
        clear h3
        go_wp2
        go_ret
        exact ⟨rfl, rfl⟩
      · have hf : decide (s[k].toNat ≠ 10) = true := by
          rw [decide_eq_true_eq]; omega
        have HF := Lib.hid hf
        have hB : ((s[k].toNat : Int) == 10) = false := by simp [h3]
        clear h3 hf
        go_wp2
        go_round
        case rel => exact ⟨k + 1, by omega, by go_num, fun j hj h => by
          by_cases e : j = k
          · subst e; exact HF.out
          · exact HB.out j hj (by omega)⟩
        case measure => simp [intOf]; omega
    · have hall : noLf s = true := by
        rw [noLf_all]
        exact allB_yes fun j hj => HB.out j hj (by omega)
      have hn : textB s = decide ((s.size : Int) ≤ 2000) := by
        unfold textB
        rw [hall, Bool.and_true]
        exact decide_eq_decide.2 (by omega)
      clear hall HB
      go_wp2
      go_ret
      exact ⟨rfl, rfl⟩
theorem ext_data (s : ByteArray) (a b : Nat) : (s.extract a b).data.toList = (s.data.toList.take b).drop a := by
  rw [ByteArray.data_extract, Array.toList_extract]
  simp [List.drop_take]
/-- The bytes so far. -/
def RPt (s : ByteArray) (p q : Nat) (w : World) (v11 v12 : Value) (wr : World) : Prop :=
  ∃ (i : Nat) (W : ByteArray), i ≤ s.size ∧ v12 = .int .i64 i ∧ v11 = .string W ∧ W.data.toList = (s.data.toList.take (min i q)).drop p ∧ wr = w
theorem step_in {l : List UInt8} {p q i : Nat} (hi : i < l.length) (h1 : p ≤ i) (h2 : i < q) : (l.take (min (i + 1) q)).drop p = (l.take (min i q)).drop p ++ (l.take (i + 1)).drop i := by
  rw [Nat.min_eq_left (by omega), Nat.min_eq_left (by omega), List.take_add_one, List.getElem?_eq_getElem hi, List.drop_append_of_le_length (by rw [List.length_take]; omega)]
  congr 1
  have : i = (l.take i).length := by rw [List.length_take]; omega
  rw [show (List.take i l ++ (some l[i]).toList).drop i = (List.take i l ++ (some l[i]).toList).drop (l.take i).length by rw [← this], List.drop_left]
theorem step_out {l : List UInt8} {p q i : Nat} (h : ¬ (p ≤ i ∧ i < q)) : (l.take (min (i + 1) q)).drop p = (l.take (min i q)).drop p := by
  by_cases h1 : q ≤ i
  · rw [Nat.min_eq_right (by omega), Nat.min_eq_right (by omega)]
  · rw [List.drop_of_length_le (by rw [List.length_take]; omega), List.drop_of_length_le (by rw [List.length_take]; omega)]
set_option maxRecDepth 100000 in
set_option maxHeartbeats 2000000 in
/-- StoreParts. -/
theorem lParts (s : ByteArray) (hs : s.size ≤ maxLen) (a b : Int) (ha : -9223372036854775808 ≤ a) (hb : -9223372036854775808 ≤ b) (ha2 : a ≤ 9223372036854775807) (hb2 : b ≤ 9223372036854775807) (w : World) :
    Calls Try.prog 5 #[.string s, .int .i64 a, .int .i64 b] w fun e w' => e = .returned (.bool true) ∧ Below w.heap.size w w' := by
  have HT := Lib.hid (nText s hs w)
  cases ht : textB s
  · rw [ht] at HT
    have HS := Lib.hid (lSane w)
    clear ht
    go_enter Try.func5, Try.ntmps5
    go_wp2_with (first
      | (go_at_call 8; refine HT.out.mono ?_; rintro e w1 ⟨rfl, rfl⟩)
      | (go_at_call 9; refine HS.out.mono ?_; rintro e w1 ⟨rfl, hb⟩))
    go_ret
    exact ⟨rfl, hb⟩
  · have hz := text_size ht
    rw [ht] at HT
    have HS := Lib.hid (fun w => lSane w)
    have H1 := Lib.hid (sNew (b := w.heap.size) (w0 := w) (w := w) E0 (Below.refl _ _) (Nat.le_refl _))
    have H2 : Hid (∀ (w1 : World) g bm, St w.heap.size w w1 g bm [] E0 → Calls Try.prog 11 #[.pointer (some ⟨g, 0, none⟩), .string ⟨#[97]⟩, .string s] w1 fun x w' => x = .returned (.int .i64 0) ∧ ∃ e, St w.heap.size w w' g bm [(nA, e)] (upd E0 e (.str s))) := Lib.hid (fun w1 g bm h => by
      have := sDefine nA s nA_size hs h
      rw [df_first _ _ nA_ok ht] at this
      exact this.mono fun _ _ ⟨a, _, c⟩ => ⟨a, put_first (c rfl)⟩)
    obtain ⟨p, hp⟩ : ∃ p, p = (kBeg s.size (min (plI a s.size) (plI b s.size)) (max (plI a s.size) (plI b s.size))).toNat := ⟨_, rfl⟩
    obtain ⟨q, hq⟩ : ∃ q, q = (kEnd s.size (max (plI a s.size) (plI b s.size))).toNat := ⟨_, rfl⟩
    have hpt : ptE (.str s) a b = .str (s.extract p q) := by rw [hp, hq]; rfl
    have H3 : Hid (∀ (w1 : World) g bm e, St w.heap.size w w1 g bm [(nA, e)] (upd E0 e (.str s)) → Calls Try.prog 24 #[.pointer (some ⟨g, 0, none⟩), .string ⟨#[97]⟩, .int .i64 a, .int .i64 b] w1 fun x w' => x = .returned (.int .i64 0) ∧
        St w.heap.size w w' g bm [(nA, e)] (upd (upd E0 e (.str s)) e (.str (s.extract p q)))) := Lib.hid (fun w1 g bm e h => by
      have := sPart nA nA_size a b ha hb h
      rw [show fdE [(nA, e)] nA = 0 by unfold fdE; rw [has_one]; rfl, get_one, upd_at, hpt] at this
      exact this.mono fun _ _ ⟨a, _, c⟩ => ⟨a, c (has_one _ _)⟩)
    have H4 : Hid (∀ (w1 : World) g bm e, St w.heap.size w w1 g bm [(nA, e)] (upd (upd E0 e (.str s)) e (.str (s.extract p q))) → Calls Try.prog 13 #[.pointer (some ⟨g, 0, none⟩), .string ⟨#[97]⟩] w1 fun x w' => x = .returned (.tuple #[.string (s.extract p q), .int .i64 0]) ∧ w1 = w') := Lib.hid (fun w1 g bm e h => by
      have := sTxt nA nA_size h
      rw [show txV [(nA, e)] (upd (upd E0 e (.str s)) e (.str (s.extract p q))) nA = .tuple #[.string (s.extract p q), .int .i64 0] by unfold txV; rw [has_one, get_one, upd_at]; rfl] at this
      exact this)
    have hqz : q ≤ s.size := by rw [hq]; unfold kEnd; omega
    have hpq : ∀ i : Nat, i < s.size → ((p ≤ i ∧ i < q) ↔ (min (plI a s.size) (plI b s.size) ≤ i ∧ (i : Int) ≤ max (plI a s.size) (plI b s.size))) := fun i hi => by
      rw [hp, hq]; unfold kBeg kEnd; omega
    have HPQ := Lib.hid hpq
    have hwa : a < 0 → wrap64 (a + (s.size : Int)) = a + (s.size : Int) := fun h => by unfold wrap64; omega
    have hwb : b < 0 → wrap64 (b + (s.size : Int)) = b + (s.size : Int) := fun h => by unfold wrap64; omega
    clear hpt hp hq ht hpq
    have hA : ∃ A, A = plI a s.size := ⟨_, rfl⟩
    have hmain : ∀ (A B : Int), plI a s.size = A → plI b s.size = B → (∀ i : Nat, i < s.size → ((p ≤ i ∧ i < q) ↔ (min A B ≤ i ∧ (i : Int) ≤ max A B))) := fun A B e1 e2 => by
      rw [← e1, ← e2]; exact HPQ.out
    have HM := Lib.hid hmain
    clear HPQ hA hmain
    by_cases a0 : a < 0 <;> by_cases b0 : b < 0
    · have hwa := hwa a0
      have hwb := hwb b0
      have HPQ := Lib.hid (HM.out (a + (s.size : Int)) (b + (s.size : Int)) (if_pos a0) (if_pos b0))
      clear HM
      go_enter Try.func5, Try.ntmps5
      go_wp2_with (first
        | (go_at_call 8; refine HT.out.mono ?_; rintro e w1 ⟨rfl, rfl⟩)
        | (go_at_call 10; refine H1.out.mono ?_; rintro e w1 ⟨g, bm, rfl, hk1⟩; have K1 := Lib.hid hk1; clear hk1)
        | (go_at_call 11; refine (H2.out _ _ _ K1.out).mono ?_; rintro e w2 ⟨rfl, e, hk2⟩; have K2 := Lib.hid hk2; clear hk2)
        | (go_at_call 24; refine (H3.out _ _ _ _ K2.out).mono ?_; rintro e w3 ⟨rfl, hk3⟩; have K3 := Lib.hid hk3; clear hk3)
        | (go_at_call 13; refine (H4.out _ _ _ _ K3.out).mono ?_; rintro e w4 ⟨rfl, rfl⟩))
      have HB := Lib.hid K3.out.out
      clear H1 H2 H3 H4 HT K1 K2 K3 hwa hwb
      generalize a + (s.size : Int) = A at HPQ ⊢
      clear a0 ha ha2
      generalize b + (s.size : Int) = B at HPQ ⊢
      clear b0 hb hb2
      go_loop [11, 12] (fun v11 v12 => ∃ (i : Nat) (W : ByteArray), i ≤ s.size ∧ v12 = .int .i64 i ∧ v11 = .string W ∧ W.data.toList = (s.data.toList.take (min i q)).drop p) (fun v11 v12 => s.size - (intOf v12).toNat)
      case atStart => exact ⟨0, ⟨#[]⟩, Nat.zero_le _, rfl, rfl, by simp⟩
      case round =>
        obtain ⟨i, W, hi, rfl, rfl, hW⟩ := hrel
        have HW := Lib.hid hW
        clear hW
        have hWs : W.size ≤ 2000 := by
          rw [size_len, HW.out, List.length_drop, List.length_take, ← size_len]; omega
        by_cases hlt : i < s.size
        · have hx := HPQ.out i hlt
          have hex : (s.extract i (i + 1)).size = 1 := by rw [extract_size _ _ _ (by omega)]; omega
          have ka := fun (w : World) => run_string_add_sum (P := Try.prog) w W (s.extract i (i + 1)) (by rw [hex]; omega)
          by_cases c1 : A ≤ (i : Int) <;> by_cases c2 : (i : Int) ≤ B <;> by_cases c3 : B ≤ (i : Int) <;> by_cases c4 : (i : Int) ≤ A
          all_goals first
            | (exfalso; omega)
            | (have hin : p ≤ i ∧ i < q := hx.2 (by omega)
               have HI := Lib.hid hin
               clear hx hin
               go_wp2_with fail
               go_round
               case rel => exact ⟨i + 1, _, by omega, by go_num, rfl, by
                 rw [app_data, HW.out, ext_data, step_in (by rw [← size_len]; omega) HI.out.1 HI.out.2]⟩
               case measure => simp [intOf]; omega)
            | (have hin : ¬ (p ≤ i ∧ i < q) := fun h => by have := hx.1 h; omega
               have HI := Lib.hid hin
               clear hx hin
               go_wp2_with fail
               go_round
               case rel => exact ⟨i + 1, W, by omega, by go_num, rfl, by
                 rw [HW.out, step_out HI.out]⟩
               case measure => simp [intOf]; omega)
        · have hWe : W = s.extract p q := by
            refine ba_eq ?_
            rw [HW.out, ext_data, Nat.min_eq_right (by omega)]
          clear HW HPQ
          subst hWe
          go_wp2_with (go_at_call 9; refine (HS.out _).mono ?_; rintro e w5 ⟨rfl, hb5⟩)
          go_ret
          exact ⟨rfl, ntrans HB.out hb5⟩
    · have hwa := hwa a0
      clear hwb
      have HPQ := Lib.hid (HM.out (a + (s.size : Int)) b (if_pos a0) (if_neg b0))
      clear HM
      go_enter Try.func5, Try.ntmps5
      go_wp2_with (first
        | (go_at_call 8; refine HT.out.mono ?_; rintro e w1 ⟨rfl, rfl⟩)
        | (go_at_call 10; refine H1.out.mono ?_; rintro e w1 ⟨g, bm, rfl, hk1⟩; have K1 := Lib.hid hk1; clear hk1)
        | (go_at_call 11; refine (H2.out _ _ _ K1.out).mono ?_; rintro e w2 ⟨rfl, e, hk2⟩; have K2 := Lib.hid hk2; clear hk2)
        | (go_at_call 24; refine (H3.out _ _ _ _ K2.out).mono ?_; rintro e w3 ⟨rfl, hk3⟩; have K3 := Lib.hid hk3; clear hk3)
        | (go_at_call 13; refine (H4.out _ _ _ _ K3.out).mono ?_; rintro e w4 ⟨rfl, rfl⟩))
      have HB := Lib.hid K3.out.out
      clear H1 H2 H3 H4 HT K1 K2 K3 hwa
      generalize a + (s.size : Int) = A at HPQ ⊢
      clear a0 ha ha2
      clear b0 hb hb2
      generalize b = B at HPQ ⊢
      go_loop [11, 12] (fun v11 v12 => ∃ (i : Nat) (W : ByteArray), i ≤ s.size ∧ v12 = .int .i64 i ∧ v11 = .string W ∧ W.data.toList = (s.data.toList.take (min i q)).drop p) (fun v11 v12 => s.size - (intOf v12).toNat)
      case atStart => exact ⟨0, ⟨#[]⟩, Nat.zero_le _, rfl, rfl, by simp⟩
      case round =>
        obtain ⟨i, W, hi, rfl, rfl, hW⟩ := hrel
        have HW := Lib.hid hW
        clear hW
        have hWs : W.size ≤ 2000 := by
          rw [size_len, HW.out, List.length_drop, List.length_take, ← size_len]; omega
        by_cases hlt : i < s.size
        · have hx := HPQ.out i hlt
          have hex : (s.extract i (i + 1)).size = 1 := by rw [extract_size _ _ _ (by omega)]; omega
          have ka := fun (w : World) => run_string_add_sum (P := Try.prog) w W (s.extract i (i + 1)) (by rw [hex]; omega)
          by_cases c1 : A ≤ (i : Int) <;> by_cases c2 : (i : Int) ≤ B <;> by_cases c3 : B ≤ (i : Int) <;> by_cases c4 : (i : Int) ≤ A
          all_goals first
            | (exfalso; omega)
            | (have hin : p ≤ i ∧ i < q := hx.2 (by omega)
               have HI := Lib.hid hin
               clear hx hin
               go_wp2_with fail
               go_round
               case rel => exact ⟨i + 1, _, by omega, by go_num, rfl, by
                 rw [app_data, HW.out, ext_data, step_in (by rw [← size_len]; omega) HI.out.1 HI.out.2]⟩
               case measure => simp [intOf]; omega)
            | (have hin : ¬ (p ≤ i ∧ i < q) := fun h => by have := hx.1 h; omega
               have HI := Lib.hid hin
               clear hx hin
               go_wp2_with fail
               go_round
               case rel => exact ⟨i + 1, W, by omega, by go_num, rfl, by
                 rw [HW.out, step_out HI.out]⟩
               case measure => simp [intOf]; omega)
        · have hWe : W = s.extract p q := by
            refine ba_eq ?_
            rw [HW.out, ext_data, Nat.min_eq_right (by omega)]
          clear HW HPQ
          subst hWe
          go_wp2_with (go_at_call 9; refine (HS.out _).mono ?_; rintro e w5 ⟨rfl, hb5⟩)
          go_ret
          exact ⟨rfl, ntrans HB.out hb5⟩
    · clear hwa
      have hwb := hwb b0
      have HPQ := Lib.hid (HM.out a (b + (s.size : Int)) (if_neg a0) (if_pos b0))
      clear HM
      go_enter Try.func5, Try.ntmps5
      go_wp2_with (first
        | (go_at_call 8; refine HT.out.mono ?_; rintro e w1 ⟨rfl, rfl⟩)
        | (go_at_call 10; refine H1.out.mono ?_; rintro e w1 ⟨g, bm, rfl, hk1⟩; have K1 := Lib.hid hk1; clear hk1)
        | (go_at_call 11; refine (H2.out _ _ _ K1.out).mono ?_; rintro e w2 ⟨rfl, e, hk2⟩; have K2 := Lib.hid hk2; clear hk2)
        | (go_at_call 24; refine (H3.out _ _ _ _ K2.out).mono ?_; rintro e w3 ⟨rfl, hk3⟩; have K3 := Lib.hid hk3; clear hk3)
        | (go_at_call 13; refine (H4.out _ _ _ _ K3.out).mono ?_; rintro e w4 ⟨rfl, rfl⟩))
      have HB := Lib.hid K3.out.out
      clear H1 H2 H3 H4 HT K1 K2 K3 hwb
      clear a0 ha ha2
      generalize a = A at HPQ ⊢
      generalize b + (s.size : Int) = B at HPQ ⊢
      clear b0 hb hb2
      go_loop [11, 12] (fun v11 v12 => ∃ (i : Nat) (W : ByteArray), i ≤ s.size ∧ v12 = .int .i64 i ∧ v11 = .string W ∧ W.data.toList = (s.data.toList.take (min i q)).drop p) (fun v11 v12 => s.size - (intOf v12).toNat)
      case atStart => exact ⟨0, ⟨#[]⟩, Nat.zero_le _, rfl, rfl, by simp⟩
      case round =>
        obtain ⟨i, W, hi, rfl, rfl, hW⟩ := hrel
        have HW := Lib.hid hW
        clear hW
        have hWs : W.size ≤ 2000 := by
          rw [size_len, HW.out, List.length_drop, List.length_take, ← size_len]; omega
        by_cases hlt : i < s.size
        · have hx := HPQ.out i hlt
          have hex : (s.extract i (i + 1)).size = 1 := by rw [extract_size _ _ _ (by omega)]; omega
          have ka := fun (w : World) => run_string_add_sum (P := Try.prog) w W (s.extract i (i + 1)) (by rw [hex]; omega)
          by_cases c1 : A ≤ (i : Int) <;> by_cases c2 : (i : Int) ≤ B <;> by_cases c3 : B ≤ (i : Int) <;> by_cases c4 : (i : Int) ≤ A
          all_goals first
            | (exfalso; omega)
            | (have hin : p ≤ i ∧ i < q := hx.2 (by omega)
               have HI := Lib.hid hin
               clear hx hin
               go_wp2_with fail
               go_round
               case rel => exact ⟨i + 1, _, by omega, by go_num, rfl, by
                 rw [app_data, HW.out, ext_data, step_in (by rw [← size_len]; omega) HI.out.1 HI.out.2]⟩
               case measure => simp [intOf]; omega)
            | (have hin : ¬ (p ≤ i ∧ i < q) := fun h => by have := hx.1 h; omega
               have HI := Lib.hid hin
               clear hx hin
               go_wp2_with fail
               go_round
               case rel => exact ⟨i + 1, W, by omega, by go_num, rfl, by
                 rw [HW.out, step_out HI.out]⟩
               case measure => simp [intOf]; omega)
        · have hWe : W = s.extract p q := by
            refine ba_eq ?_
            rw [HW.out, ext_data, Nat.min_eq_right (by omega)]
          clear HW HPQ
          subst hWe
          go_wp2_with (go_at_call 9; refine (HS.out _).mono ?_; rintro e w5 ⟨rfl, hb5⟩)
          go_ret
          exact ⟨rfl, ntrans HB.out hb5⟩
    · clear hwa
      clear hwb
      have HPQ := Lib.hid (HM.out a b (if_neg a0) (if_neg b0))
      clear HM
      go_enter Try.func5, Try.ntmps5
      go_wp2_with (first
        | (go_at_call 8; refine HT.out.mono ?_; rintro e w1 ⟨rfl, rfl⟩)
        | (go_at_call 10; refine H1.out.mono ?_; rintro e w1 ⟨g, bm, rfl, hk1⟩; have K1 := Lib.hid hk1; clear hk1)
        | (go_at_call 11; refine (H2.out _ _ _ K1.out).mono ?_; rintro e w2 ⟨rfl, e, hk2⟩; have K2 := Lib.hid hk2; clear hk2)
        | (go_at_call 24; refine (H3.out _ _ _ _ K2.out).mono ?_; rintro e w3 ⟨rfl, hk3⟩; have K3 := Lib.hid hk3; clear hk3)
        | (go_at_call 13; refine (H4.out _ _ _ _ K3.out).mono ?_; rintro e w4 ⟨rfl, rfl⟩))
      have HB := Lib.hid K3.out.out
      clear H1 H2 H3 H4 HT K1 K2 K3
      clear a0 ha ha2
      generalize a = A at HPQ ⊢
      clear b0 hb hb2
      generalize b = B at HPQ ⊢
      go_loop [11, 12] (fun v11 v12 => ∃ (i : Nat) (W : ByteArray), i ≤ s.size ∧ v12 = .int .i64 i ∧ v11 = .string W ∧ W.data.toList = (s.data.toList.take (min i q)).drop p) (fun v11 v12 => s.size - (intOf v12).toNat)
      case atStart => exact ⟨0, ⟨#[]⟩, Nat.zero_le _, rfl, rfl, by simp⟩
      case round =>
        obtain ⟨i, W, hi, rfl, rfl, hW⟩ := hrel
        have HW := Lib.hid hW
        clear hW
        have hWs : W.size ≤ 2000 := by
          rw [size_len, HW.out, List.length_drop, List.length_take, ← size_len]; omega
        by_cases hlt : i < s.size
        · have hx := HPQ.out i hlt
          have hex : (s.extract i (i + 1)).size = 1 := by rw [extract_size _ _ _ (by omega)]; omega
          have ka := fun (w : World) => run_string_add_sum (P := Try.prog) w W (s.extract i (i + 1)) (by rw [hex]; omega)
          by_cases c1 : A ≤ (i : Int) <;> by_cases c2 : (i : Int) ≤ B <;> by_cases c3 : B ≤ (i : Int) <;> by_cases c4 : (i : Int) ≤ A
          all_goals first
            | (exfalso; omega)
            | (have hin : p ≤ i ∧ i < q := hx.2 (by omega)
               have HI := Lib.hid hin
               clear hx hin
               go_wp2_with fail
               go_round
               case rel => exact ⟨i + 1, _, by omega, by go_num, rfl, by
                 rw [app_data, HW.out, ext_data, step_in (by rw [← size_len]; omega) HI.out.1 HI.out.2]⟩
               case measure => simp [intOf]; omega)
            | (have hin : ¬ (p ≤ i ∧ i < q) := fun h => by have := hx.1 h; omega
               have HI := Lib.hid hin
               clear hx hin
               go_wp2_with fail
               go_round
               case rel => exact ⟨i + 1, W, by omega, by go_num, rfl, by
                 rw [HW.out, step_out HI.out]⟩
               case measure => simp [intOf]; omega)
        · have hWe : W = s.extract p q := by
            refine ba_eq ?_
            rw [HW.out, ext_data, Nat.min_eq_right (by omega)]
          clear HW HPQ
          subst hWe
          go_wp2_with (go_at_call 9; refine (HS.out _).mono ?_; rintro e w5 ⟨rfl, hb5⟩)
          go_ret
          exact ⟨rfl, ntrans HB.out hb5⟩
end Go.Proofs.Ytbedddgfijpbcaa
