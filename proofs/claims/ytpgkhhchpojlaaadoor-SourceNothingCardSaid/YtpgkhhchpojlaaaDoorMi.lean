/- Walk: the statement on how deep a stack may be. -/
import Derived.Test.YtpgkhhchpojlaaaDoorMf
namespace Go.Proofs.YtpgkhhchpojlaaaDoor
open Go.RowKit Go.Maps Go.WideMaps

theorem u64_mod (n : Int) (k : Nat) (hk : 0 < k) (hk2 : k ≤ 1000000000) : ∃ m : Nat, m < k ∧ wrap64 ((IntKind.u64.wrap n).tmod (k : Int)) = m := by
  have h0 : 0 ≤ IntKind.u64.wrap n := by
    show 0 ≤ n % 18446744073709551616
    omega
  rw [Int.tmod_eq_emod_of_nonneg h0]
  have h1 := Int.emod_nonneg (IntKind.u64.wrap n) (show (k : Int) ≠ 0 by omega)
  have h2 := Int.emod_lt_of_pos (IntKind.u64.wrap n) (show (0 : Int) < (k : Int) by omega)
  refine ⟨(IntKind.u64.wrap n % (k : Int)).toNat, by omega, ?_⟩
  unfold wrap64
  omega
abbrev txX : ByteArray := ⟨#[120]⟩
abbrev txY : ByteArray := ⟨#[121]⟩
/-- The frame of the macro, the frame that waits. -/
def dM : Fr := macFr nmM [tLn txX] []
def dW : Fr := waiFr [tLn txY]
def dF (k : Nat) (b : Bool) : List Fr := if b then List.replicate k dM ++ [dW.next] else List.replicate k dM
theorem modify_last (u : Fr → Fr) (x : Fr) : ∀ l : List Fr, (l ++ [x]).modify l.length u = l ++ [u x]
  | [] => rfl
  | a :: t => by
    have ih := modify_last u x t
    simp [ih]
theorem dF_ok : (nmdB nmM && lsOk [tLn txX]) = true ∧ lsOk [tLn txY] = true := ⟨by decide +kernel, by decide +kernel⟩
theorem dM_p : (!(dM.is 3 && dM.over)) = true ∧ (!(dW.next.is 3 && dW.next.over)) = false ∧ dW.live = true := ⟨by decide +kernel, by decide +kernel, by decide +kernel⟩
theorem dF_base (k : Nat) (b : Bool) : baseN (dF k b) = k := by
  unfold dF baseN
  cases b
  · rw [if_neg (by decide)]
    refine topN_of (by simp) (fun j f hj hf => ?_) (fun h0 => ⟨dM, ?_, dM_p.1⟩)
    · have := (List.getElem?_eq_some_iff.1 hf).1
      simp at this
      omega
    · rw [List.getElem?_replicate, if_pos (by omega)]
  · rw [if_pos rfl]
    refine topN_of (by simp) (fun j f hj hf => ?_) (fun h0 => ⟨dM, ?_, dM_p.1⟩)
    · rw [List.getElem?_append_right (by simpa using hj), List.length_replicate] at hf
      have hj2 : j - k = 0 := by
        have := (List.getElem?_eq_some_iff.1 hf).1
        simp at this
        omega
      rw [hj2] at hf
      simp at hf
      subst hf
      exact dM_p.2.1
    · rw [List.getElem?_append_left (by simp; omega), List.getElem?_replicate, if_pos (by omega)]
theorem dF_take (k : Nat) (b : Bool) : (dF k b).take k = List.replicate k dM := by
  unfold dF
  cases b
  · rw [if_neg (by decide)]; simp
  · rw [if_pos rfl, List.take_append_of_le_length (by simp)]; simp
/-- A macro comes. -/
theorem dF_mac {k : Nat} : putE (nmdB nmM && lsOk [tLn txX]) (dF k false) = (if k < 50 then 0 else 2) ∧ putF (nmdB nmM && lsOk [tLn txX]) (dF k false) (macFr nmM [tLn txX] []) = dF (if k < 50 then k + 1 else k) false := by
  rw [dF_ok.1]
  unfold putE putF psE psF
  rw [dF_base, dF_take, if_pos rfl, if_pos rfl]
  by_cases h : k < 50
  · have h' : ¬ 50 ≤ k := by omega
    simp only [if_pos h, if_neg h']
    refine ⟨trivial, ?_⟩
    show List.replicate k dM ++ [dM] = List.replicate (k + 1) dM
    rw [List.replicate_succ']
  · have h' : 50 ≤ k := by omega
    simp only [if_neg h, if_pos h']
    exact ⟨trivial, trivial⟩
/-- A line waits. -/
theorem dF_wait {k : Nat} (b : Bool) (h : k < 50) : putE (lsOk [tLn txY]) (dF k b) = 0 ∧ putF (lsOk [tLn txY]) (dF k b) (waiFr [tLn txY]) = List.replicate k dM ++ [dW] := by
  rw [dF_ok.2]
  unfold putE putF psE psF
  rw [dF_base, dF_take, if_pos rfl, if_pos rfl, if_neg (by omega), if_neg (by omega)]
  exact ⟨rfl, rfl⟩
/-- It is read. -/
theorem dF_next (k : Nat) : nxL (List.replicate k dM ++ [dW]) = tLn txY ∧ nxE (List.replicate k dM ++ [dW]) = 0 ∧ nxF (List.replicate k dM ++ [dW]) = dF k true := by
  have hl : liveN (List.replicate k dM ++ [dW]) = k + 1 := by
    refine topN_of (by simp) (fun j f hj hf => ?_) (fun h0 => ⟨dW, ?_, dM_p.2.2⟩)
    · have := (List.getElem?_eq_some_iff.1 hf).1
      simp at this
      omega
    · rw [Nat.add_sub_cancel, List.getElem?_append_right (by simp)]
      simp
  have hf : frI (List.replicate k dM ++ [dW]) k = dW := frI_at (by
    rw [List.getElem?_append_right (by simp)]
    simp)
  unfold nxL nxE nxF
  rw [hl, if_neg (by omega), if_neg (by omega), Nat.add_sub_cancel, hf]
  refine ⟨rfl, rfl, ?_⟩
  have hm := modify_last Fr.next dW (List.replicate k dM)
  rw [List.length_replicate] at hm
  rw [List.take_of_length_le (by simp), hm]
  rfl
section
variable {C : CStk}
theorem one_new {w1 : World} (t : ByteArray) (ht : t.size ≤ 140737488351232) : LnsAt (fun k => k = w1.heap.size) (w1.alloc (.cells #[.string t, .bool false, .int .i64 0, .int .i64 0, .slice none 0 0] 36)) (.slice (some ⟨w1.heap.size, 0, none⟩) 1 1) [tLn t] :=
  one_line (K := fun _ => False) (w := w1) (l := tLn t) (v := .slice none 0 0) (Blk.new _ _ _) rfl RowAt.nil (fun _i hi => hi.elim) (fun _i hi => hi.elim) ht (Nat.zero_le _)
theorem dMac (M : CMeth C) {w w1 : World} {g k i : Nat} {U K : Nat → Prop} (hk0 : w1.heap.size = k) (h : CH C w w1 g (dF i false) (fun _ => False) U K) :
    Calls Tryd.prog 17 #[.pointer (some ⟨g, 0, none⟩), .string ⟨#[109]⟩, .slice (some ⟨k, 0, none⟩) 1 1, .slice none 0 0] (w1.alloc (.cells #[.string ⟨#[120]⟩, .bool false, .int .i64 0, .int .i64 0, .slice none 0 0] 36)) fun e w2 => e = .returned (.int .i64 (if i < 50 then 0 else 2)) ∧ ∃ U' K', CH C w w2 g (dF (if i < 50 then i + 1 else i) false) (fun _ => False) U' K' := by
  subst hk0
  have h2 := h.on M.toCBase ((Below.refl w1.heap.size w1).alloc (Nat.le_refl _) (.cells #[.string ⟨#[120]⟩, .bool false, .int .i64 0, .int .i64 0, .slice none 0 0] 36))
  refine (M.macro_ nmM (fun k => k = w1.heap.size) _ _ [tLn txX] [] (by decide) (by decide) (by decide) (one_new txX (by decide)) RowAt.nil (fun k hk => by subst hk; simp) h2.c).mono ?_
  rintro e w2 ⟨h3, h4⟩
  rw [dF_mac.1] at h3
  rw [dF_mac.2] at h4
  obtain ⟨U', K', h5, _⟩ := h2.call h4
  exact ⟨h3, U', K', h5⟩
theorem dWait (M : CMeth C) {w w1 : World} {g k i : Nat} {b : Bool} {U K : Nat → Prop} (hi : i < 50) (hk0 : w1.heap.size = k) (h : CH C w w1 g (dF i b) (fun _ => False) U K) :
    Calls Tryd.prog 18 #[.pointer (some ⟨g, 0, none⟩), .slice (some ⟨k, 0, none⟩) 1 1] (w1.alloc (.cells #[.string ⟨#[121]⟩, .bool false, .int .i64 0, .int .i64 0, .slice none 0 0] 36)) fun e w2 => e = .returned (.int .i64 0) ∧ ∃ U' K', CH C w w2 g (List.replicate i dM ++ [dW]) (fun _ => False) U' K' := by
  subst hk0
  have h2 := h.on M.toCBase ((Below.refl w1.heap.size w1).alloc (Nat.le_refl _) (.cells #[.string ⟨#[121]⟩, .bool false, .int .i64 0, .int .i64 0, .slice none 0 0] 36))
  refine (M.wait (fun k => k = w1.heap.size) _ [tLn txY] (by decide) (one_new txY (by decide)) (fun k hk => by subst hk; simp) h2.c).mono ?_
  rintro e w2 ⟨h3, h4⟩
  rw [(dF_wait b hi).1] at h3
  rw [(dF_wait b hi).2] at h4
  obtain ⟨U', K', h5, _⟩ := h2.call h4
  exact ⟨h3, U', K', h5⟩
theorem dNext (M : CMeth C) {w w1 : World} {g i : Nat} {U K : Nat → Prop} (h : CH C w w1 g (List.replicate i dM ++ [dW]) (fun _ => False) U K) :
    Calls Tryd.prog 14 #[.pointer (some ⟨g, 0, none⟩)] w1 fun e w2 => (∃ A n c, e = .returned (.tuple #[.agg #[.string ⟨#[121]⟩, .bool false, .int .i64 0, .int .i64 0, .slice A n c], .int .i64 0])) ∧ ∃ U' K', CH C w w2 g (dF i true) (fun _ => False) U' K' :=
  (M.next h.c).mono fun e w2 ⟨h1, h2⟩ => by
    obtain ⟨e1, e2, e3⟩ := dF_next i
    rw [e1, e2] at h1
    rw [e3] at h2
    obtain ⟨v, h3, A, c, rfl, _⟩ := h1
    obtain ⟨U', K', h5, _⟩ := h.call h2
    exact ⟨⟨A, _, c, h3⟩, U', K', h5⟩
theorem dDepth (M : CMeth C) {w w1 : World} {g i : Nat} {b : Bool} {U K : Nat → Prop} (h : CH C w w1 g (dF i b) (fun _ => False) U K) :
    Calls Tryd.prog 13 #[.pointer (some ⟨g, 0, none⟩)] w1 fun e w2 => e = .returned (.int .i64 (if b then (i : Int) + 1 else i)) ∧ CH C w w2 g (dF i b) (fun _ => False) U K :=
  (M.depth h.c).mono fun e w2 ⟨h1, h2⟩ => ⟨by
    rw [h1]
    cases b
    · simp [dF]
    · simp [dF], h.on M.toCBase h2⟩
set_option maxRecDepth 100000 in
set_option maxHeartbeats 2000000 in
/-- SourceDeep. -/
theorem lDeep (M : CMeth C) (hS : ∀ w : World, Calls Tryd.prog 8 #[] w fun e w' => e = .returned (.bool true) ∧ Below w.heap.size w w') (n : Int) (w : World) :
    Calls Tryd.prog 5 #[.int .i64 n] w fun e w' => e = .returned (.bool true) ∧ Below w.heap.size w w' := by
  obtain ⟨k, hk, hy⟩ := u64_mod n 60 (by omega) (by omega)
  have hy' : wrap64 ((IntKind.u64.wrap n).tmod 60) = (k : Int) := hy
  clear hy
  have HNew := Lib.hid (M.new w)
  have HS := Lib.hid hS
  clear hS
  go_enter Tryd.func5, Tryd.ntmps5
  go_wp2_with (go_at_call 9; refine HNew.out.mono ?_; rintro e w1 ⟨g, rfl, hc⟩; obtain ⟨U1, K1, h1⟩ := CH.new hc; have H1 := Lib.hid h1; clear hc h1)
  rw [hy']
  clear hy'
  go_loopw [5] (fun v5 wr => ∃ i : Nat, i ≤ k ∧ v5 = .int .i64 i ∧ ∃ U K, CH C w wr g (dF (min i 50) false) (fun _ => False) U K) (fun v5 _ => k - (intOf v5).toNat)
  case atStart => exact ⟨0, Nat.zero_le _, rfl, U1, K1, H1.out⟩
  case round =>
    obtain ⟨i, hi, rfl, U, K, hB⟩ := hrel
    have HB := Lib.hid hB
    clear hB H1
    by_cases hlt : i < k
    · by_cases h5 : i < 50
      · have hmi : min i 50 = i := by omega
        have HM := Lib.hid (fun (j : Nat) (hj : wr.heap.size = j) => dMac M hj HB.out)
        rw [hmi, if_pos h5, if_pos h5] at HM
        have h5i : (i : Int) < 50 := by omega
        clear HB hmi
        go_wp2_with (go_at_call 17; refine (HM.out _ (by simp)).mono ?_; rintro e w2 ⟨rfl, U2, K2, h2⟩; have H2 := Lib.hid h2; clear h2)
        go_roundw
        case rel => exact ⟨i + 1, by omega, by go_num, U2, K2, by have e : min (i + 1) 50 = i + 1 := by omega
                                                                  rw [e]; exact H2.out⟩
        case measure => simp [intOf]; omega
      · have hmi : min i 50 = 50 := by omega
        have HM := Lib.hid (fun (j : Nat) (hj : wr.heap.size = j) => dMac M hj HB.out)
        rw [hmi, if_neg (by decide), if_neg (by decide)] at HM
        have h5i : ¬ (i : Int) < 50 := by omega
        clear HB hmi
        go_wp2_with (go_at_call 17; refine (HM.out _ (by simp)).mono ?_; rintro e w2 ⟨rfl, U2, K2, h2⟩; have H2 := Lib.hid h2; clear h2)
        go_roundw
        case rel => exact ⟨i + 1, by omega, by go_num, U2, K2, by have e : min (i + 1) 50 = 50 := by omega
                                                                  rw [e]; exact H2.out⟩
        case measure => simp [intOf]; omega
    · have ei : i = k := by omega
      subst ei
      have HD := Lib.hid (dDepth M HB.out)
      rw [if_neg (by decide)] at HD
      by_cases h5 : i < 50
      · have hmi : min i 50 = i := by omega
        have hmn : min (i : Int) 50 = (i : Int) := by omega
        have hi6 : ¬ (50 : Int) ≤ (i : Int) := by omega
        have hne : ((i : Int) != (i : Int)) = false := by simp
        rw [hmi] at HD
        clear HB hmi
        go_wp2_with (go_at_call 13; refine HD.out.mono ?_; rintro e w2 ⟨rfl, h2⟩; have H2 := Lib.hid h2; clear h2)
        go_loopw [7] (fun v7 wi => ∃ m : Nat, m ≤ 5 ∧ v7 = .int .i64 m ∧ ∃ b U K, CH C w wi g (dF i b) (fun _ => False) U K) (fun v7 _ => 5 - (intOf v7).toNat)
        case atStart => exact ⟨0, Nat.zero_le _, rfl, false, _, _, H2.out⟩
        case round =>
          obtain ⟨wo, rfl⟩ : ∃ wo : World, wo = wr := ⟨_, rfl⟩
          obtain ⟨m, hm, rfl, b, U', K', hB⟩ := hrel
          have HB := Lib.hid hB
          clear hB H2 HD
          by_cases hm5 : m < 5
          · have hm5i : (m : Int) < 5 := by omega
            have hty : ((⟨#[121]⟩ : ByteArray).toList == (⟨#[121]⟩ : ByteArray).toList) = true := by simp
            have hw1 : IntKind.i64.wrap ((i : Int) + 1) = (i : Int) + 1 := by rw [IntWalk.i64_in _ (by omega)]
            have hne2 : ((i : Int) + 1 != (i : Int) + 1) = false := by simp
            have HW := Lib.hid (fun (w1 : World) (j : Nat) (hj : w1.heap.size = j) (h : CH C w w1 g (dF i b) (fun _ => False) U' K') => dWait M h5 hj h)
            have HN := Lib.hid (fun (w1 : World) (U K : Nat → Prop) (h : CH C w w1 g (List.replicate i dM ++ [dW]) (fun _ => False) U K) => dNext M h)
            have HDp := Lib.hid (fun (w1 : World) (U K : Nat → Prop) (h : CH C w w1 g (dF i true) (fun _ => False) U K) => dDepth M h)
            rw [if_pos rfl] at HDp
            have HAl := Lib.hid (fun (w1 : World) (U K : Nat → Prop) (h : CH C w w1 g (dF i true) (fun _ => False) U K) (o : Obj) => h.on M.toCBase ((Below.refl w1.heap.size w1).alloc (Nat.le_refl _) o))
            go_wp2_with (first
              | (go_at_call 18; refine (HW.out _ _ (by simp) HB.out).mono ?_; rintro e w3 ⟨rfl, U3, K3, h3⟩; have H3 := Lib.hid h3; clear h3)
              | (go_at_call 14; refine (HN.out _ _ _ H3.out).mono ?_; rintro e w4 ⟨⟨A4, n4, c4, rfl⟩, U4, K4, h4⟩; have H4 := Lib.hid (HAl.out _ _ _ h4 (.cells #[.string ⟨#[121]⟩, .bool false, .int .i64 0, .int .i64 0, .slice A4 n4 c4] 36)); have q0 := (Blk.new w4 36 #[.string ⟨#[121]⟩, .bool false, .int .i64 0, .int .i64 0, .slice A4 n4 c4]).cell 0; simp only [List.getElem?_toArray, List.getElem?_cons_zero] at q0; clear h4)
              | (go_at_call 13; refine (HDp.out _ _ _ H4.out).mono ?_; rintro e w5 ⟨rfl, h5'⟩; have H5 := Lib.hid h5'; clear h5'))
            go_roundw
            case rel => exact ⟨m + 1, by omega, by go_num, true, _, _, H5.out⟩
            case measure => simp [intOf]; omega
          · have hm5i : ¬ (m : Int) < 5 := by omega
            go_wp2_with (go_at_call 8; refine (HS.out _).mono ?_; rintro e w9 ⟨rfl, hb9⟩)
            go_ret
            exact ⟨rfl, HB.out.below.trans (hb9.mono HB.out.below.size)⟩
      · have hmi : min i 50 = 50 := by omega
        have hi6 : (50 : Int) ≤ (i : Int) := by omega
        have hmn : min (i : Int) 50 = 50 := by omega
        rw [hmi] at HD
        clear HB hmi
        go_wp2_with (first
          | (go_at_call 13; refine HD.out.mono ?_; rintro e w2 ⟨rfl, h2⟩; have H2 := Lib.hid h2; clear h2)
          | (go_at_call 8; refine (HS.out _).mono ?_; rintro e w9 ⟨rfl, hb9⟩))
        go_ret
        exact ⟨rfl, H2.out.below.trans (hb9.mono H2.out.below.size)⟩
end
end Go.Proofs.YtpgkhhchpojlaaaDoor
