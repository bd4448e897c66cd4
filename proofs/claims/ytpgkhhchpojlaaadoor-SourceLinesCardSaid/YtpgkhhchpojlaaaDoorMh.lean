/- Walk: the statement on the lines of a text. -/
import Derived.Test.YtpgkhhchpojlaaaDoorLa
import Derived.Test.YtpgkhhchpojlaaaDoorKz
namespace Go.Proofs.YtpgkhhchpojlaaaDoor
open Go.RowKit Go.Maps Go.WideMaps

theorem cutLf_nil : ∀ {b : List UInt8}, cutLf b = [] → b = []
  | [], _ => rfl
  | c :: t, h => by
    unfold cutLf at h
    split at h
    · cases h
    · split at h <;> cases h
/-- The lines, each with a line feed, are the text, but for one at the end. -/
theorem cut_join : ∀ (b : List UInt8), (cutLf b).flatMap (fun l => l ++ [10]) = if b = [] ∨ b.getLast? = some 10 then b else b ++ [10]
  | [] => by simp [cutLf]
  | c :: t => by
    have ih := cut_join t
    by_cases hc : c = 10
    · subst hc
      have e : cutLf (10 :: t) = [] :: cutLf t := by
        conv => lhs; unfold cutLf
        rw [if_pos rfl]
      rw [e, List.flatMap_cons, ih]
      by_cases ht : t = []
      · subst ht
        simp
      · have hg : (10 :: t).getLast? = t.getLast? := by
          cases t with
          | nil => exact absurd rfl ht
          | cons a r => rfl
        rw [hg]
        by_cases hl : t.getLast? = some 10
        · rw [if_pos (.inr hl), if_pos (.inr hl)]; rfl
        · rw [if_neg (by rintro (h | h) <;> contradiction), if_neg (by rintro (h | h) <;> contradiction)]; rfl
    · cases hcut : cutLf t with
      | nil =>
        have ht := cutLf_nil hcut
        subst ht
        have e : cutLf [c] = [[c]] := by
          conv => lhs; unfold cutLf
          rw [if_neg hc]
          rfl
        rw [e, if_neg (by
          rintro (h | h)
          · cases h
          · simp at h; exact hc h)]
        rfl
      | cons a r =>
        have e : cutLf (c :: t) = (c :: a) :: r := by
          conv => lhs; unfold cutLf
          rw [if_neg hc, hcut]
        have ht : t ≠ [] := fun h => by rw [h] at hcut; cases hcut
        have hg : (c :: t).getLast? = t.getLast? := by
          cases t with
          | nil => exact absurd rfl ht
          | cons a r => rfl
        rw [hcut, List.flatMap_cons] at ih
        rw [e, List.flatMap_cons, List.cons_append, List.cons_append, ih, hg]
        by_cases hl : t.getLast? = some 10
        · rw [if_pos (.inr hl), if_pos (.inr hl)]
        · rw [if_neg (by rintro (h | h) <;> contradiction), if_neg (by rintro (h | h) <;> contradiction)]; rfl
/-- Lines, each with a line feed. -/
def jn (L : List ByteArray) : ByteArray := ⟨(L.flatMap fun x => x.data.toList ++ [10]).toArray⟩
theorem jn_data (L : List ByteArray) : (jn L).data.toList = L.flatMap fun x => x.data.toList ++ [10] := rfl
theorem jn_next {L : List ByteArray} {i : Nat} {x : ByteArray} (h : L[i]? = some x) : jn (L.take (i + 1)) = jn (L.take i) ++ (x ++ ⟨#[10]⟩) := by
  obtain ⟨hi, e⟩ := List.getElem?_eq_some_iff.1 h
  refine ba_eq ?_
  rw [jn_data, app_data, app_data, jn_data, List.take_succ_eq_append_getElem hi, List.flatMap_append, e]
  simp
theorem jn_size (L : List ByteArray) (i : Nat) : (jn (L.take i)).size ≤ (jn L).size := by
  rw [size_len, size_len, jn_data, jn_data]
  conv => rhs; rw [← List.take_append_drop i L, List.flatMap_append, List.length_append]
  exact Nat.le_add_right _ _
theorem jn_text (s : ByteArray) : (jn (lnsT s)).data.toList = if s.data.toList = [] ∨ s.data.toList.getLast? = some 10 then s.data.toList else s.data.toList ++ [10] := by
  rw [jn_data]
  unfold lnsT
  rw [List.flatMap_map]
  exact cut_join s.data.toList
theorem toL (s : ByteArray) : s.toList = s.data.toList := ByteArray.toList_eq s
set_option maxRecDepth 100000 in
set_option maxHeartbeats 1000000 in
/-- SourceLines. -/
theorem lLines (hS : ∀ w : World, Calls Tryd.prog 8 #[] w fun e w' => e = .returned (.bool true) ∧ Below w.heap.size w w')
    (hL : ∀ (s : ByteArray) (w : World), s.size ≤ 1000000 → Calls Tryd.prog 15 #[.string s] w fun e w' => ∃ A n c, e = .returned (.slice A n c) ∧ SsAt (fun k => w.heap.size ≤ k ∧ k < w'.heap.size) w' (.slice A n c) (lnsT s) ∧ Below w.heap.size w w')
    (s : ByteArray) (hs : s.size ≤ 140737488351232) (w : World) :
    Calls Tryd.prog 4 #[.string s] w fun e w' => e = .returned (.bool true) ∧ Below w.heap.size w w' := by
  have HS := Lib.hid hS
  clear hS
  by_cases hb : s.size ≤ 4000
  · have hbi : ¬ (4000 : Int) < (s.size : Nat) := by omega
    have HL := Lib.hid (hL s w (by omega))
    have HN := Lib.hid (fun w => nLines s (by omega) w)
    have HJ := Lib.hid (jn_text s)
    have hjs : (jn (lnsT s)).size ≤ s.size + 1 := by
      rw [size_len, HJ.out]
      have : s.data.toList.length = s.size := rfl
      split
      · omega
      · rw [List.length_append]; simp
    have HSz := Lib.hid (lnsT_size s)
    clear hL
    generalize lnsT s = L at *
    go_enter Tryd.func4, Tryd.ntmps4
    go_wp2_with (first
      | (go_at_call 15; refine HL.out.mono ?_; rintro e w1 ⟨A, n, c, rfl, hv, hb1⟩; have HV := Lib.hid hv; have HB1 := Lib.hid hb1; clear hv hb1)
      | (go_at_call 10; refine (HN.out _).mono ?_; rintro e w2 ⟨v2, rfl, hv2, hb2⟩; obtain ⟨A2, n2, c2, rfl⟩ : ∃ A n c, v2 = .slice A n c := (by obtain ⟨A, c, e, _⟩ := hv2; exact ⟨A, _, c, e⟩); have HT := Lib.hid (lTexts _ _ _ _ _ w2 (HV.out.stay (Kept.of_below hb2 (fun i hi => hi.2)) (fun _ h => h)) hv2); have HB2 := Lib.hid (HB1.out.trans (hb2.mono HB1.out.size)); have HV2 := Lib.hid (HV.out.stay (Kept.of_below hb2 (fun i hi => hi.2)) (fun _ h => h)); have HKl := Lib.hid hb2.size; clear hb2 hv2)
      | (go_at_call 16; refine HT.out.mono ?_; rintro e w3 ⟨rfl, hb3⟩; have HB3 := Lib.hid (HB2.out.trans (hb3.mono HB2.out.size)); have HV3 := Lib.hid (HV2.out.stay (Kept.of_below hb3 (fun i hi => Nat.lt_of_lt_of_le hi.2 HKl.out)) (fun _ h => h)); clear hb3))
    obtain ⟨A', c', e, hc1, hc2, hrow⟩ := HV3.out
    injection e with e1 e2 e3
    subst e1 e2 e3
    have HRow := Lib.hid hrow
    unfold maxLen at hc2
    clear hrow
    go_loop [4, 5] (fun v4 v5 => ∃ i : Nat, i ≤ L.length ∧ v5 = .int .i64 i ∧ v4 = .string (jn (L.take i))) (fun _ v5 => L.length - (intOf v5).toNat)
    case atStart => exact ⟨0, Nat.zero_le _, rfl, rfl⟩
    case round =>
      obtain ⟨i, hi, rfl, rfl⟩ := hrel
      have hsz := jn_size L i
      by_cases hlt : i < L.length
      · obtain ⟨g, off, rfl, _, hr⟩ := HRow.out (by omega)
        have hx := List.getElem?_eq_getElem hlt
        have c0 := (hr i _ hx).1
        have hxs := HSz.out _ (List.mem_of_getElem? hx)
        rw [Nat.mul_one] at c0
        have HNx := Lib.hid (jn_next hx)
        generalize L[i] = x at *
        have hx10 : (x ++ (⟨#[10]⟩ : ByteArray)).size = x.size + 1 := by simp; rfl
        clear hx hr
        go_wp2
        go_round
        case rel => exact ⟨i + 1, by omega, by go_num, by rw [HNx.out]⟩
        case measure => simp [intOf]; omega
      · have ei : i = L.length := by omega
        subst ei
        rw [List.take_length]
        by_cases hP : s.data.toList = [] ∨ s.data.toList.getLast? = some 10
        · have hjn : jn L = s := ba_eq (by rw [HJ.out, if_pos hP])
          rw [hjn]
          have he : (s.toList == s.toList) = true := by simp
          clear hP hjn hsz hjs
          go_wp2_with (go_at_call 8; refine (HS.out _).mono ?_; rintro e w9 ⟨rfl, hb9⟩)
          go_ret
          exact ⟨rfl, HB3.out.trans (hb9.mono HB3.out.size)⟩
        · have hjn : jn L = s ++ ⟨#[10]⟩ := ba_eq (by rw [HJ.out, if_neg hP, app_data])
          rw [hjn]
          have h0 : s.size ≠ 0 := fun h => hP (.inl (List.eq_nil_of_length_eq_zero h))
          have he : ((s ++ (⟨#[10]⟩ : ByteArray)).toList == s.toList) = false := by
            rw [toL, toL, beq_eq_false_iff_ne]
            intro h
            have := congrArg List.length h
            rw [app_data, List.length_append] at this
            simp at this
          have he2 : ((s ++ (⟨#[10]⟩ : ByteArray)).toList == (s ++ (⟨#[10]⟩ : ByteArray)).toList) = true := by simp
          have hpos : (0 : Int) < (s.size : Nat) := by omega
          have hx10 : (s ++ (⟨#[10]⟩ : ByteArray)).size = s.size + 1 := by simp; rfl
          have hlast : s[s.size - 1].toNat ≠ 10 := fun h => hP (.inr (by
            have hlen : s.data.toList.length = s.size := rfl
            rw [List.getLast?_eq_getElem?, hlen, List.getElem?_eq_getElem (by omega)]
            exact congrArg some (UInt8.toNat_inj.1 h)))
          have hli : ((s[s.size - 1].toNat : Int) != 10) = true := by simp; omega
          have hw1 : IntKind.i64.wrap ((s.size : Int) - 1) = ((s.size - 1 : Nat) : Int) := by rw [IntWalk.i64_in _ (by omega)]; omega
          have hk : s.size - 1 < s.size := by omega
          clear hP hjn hsz hjs
          go_wp2_with (go_at_call 8; refine (HS.out _).mono ?_; rintro e w9 ⟨rfl, hb9⟩)
          go_ret
          exact ⟨rfl, HB3.out.trans (hb9.mono HB3.out.size)⟩
  · have hbi : (4000 : Int) < (s.size : Nat) := by omega
    go_enter Tryd.func4, Tryd.ntmps4
    go_wp2_with (go_at_call 8; refine (HS.out _).mono ?_; rintro e w9 ⟨rfl, hb9⟩)
    go_ret
    exact ⟨rfl, hb9⟩
end Go.Proofs.YtpgkhhchpojlaaaDoor
