/- Walk of the statement on what is written and split again. -/
import Derived.Test.YtfcbpehgkpmniaaDoorBc
import Derived.Test.YtfcbpehgkpmniaaDoorLb
namespace Go.Proofs.YtfcbpehgkpmniaaDoor
open Go.RowKit Go.Maps Go.WideMaps

theorem ba_bys (l : List ByteArray) : (bysL l).map baO = l := by
  unfold bysL
  rw [List.map_map]
  exact (List.map_congr_left (fun x _ => rfl)).trans (List.map_id l)
/-- What Write writes is split again. -/
theorem ok_split {name T : ByteArray} {l : List ByteArray} (h : WrOk name l T) : ∃ r : List UInt8, T.size ≤ 2000 ∧ spI T.data.toList 46 39 = true ∧ spE T.data.toList 46 39 = 0 ∧ spR T.data.toList 46 39 = ⟨name.data.toList, bysL l, r, false⟩ ∧ wdsL r = bysL l ∧ r.length ≤ 2000 := by
  obtain ⟨F, hT, hr, hn, hb, hl, hw⟩ := h
  have hok : spOk T.data.toList 46 39 = true := by unfold spOk; rw [hl]; rfl
  have hic : isCt T.data.toList 46 39 = true := by rw [hT]; rfl
  have hI : spI T.data.toList 46 39 = true := by unfold spI; rw [hok, hic]; rfl
  have hTz : T.size ≤ 2000 := by
    unfold lineB at hl
    simp only [Bool.and_eq_true, decide_eq_true_eq] at hl
    rw [size_len]
    exact hl.2
  have hsk : skL (name.data.toList ++ F) = name.data.toList ++ F := by
    unfold noBl at hb
    cases hc : name.data.toList with
    | nil => exact absurd hc hn
    | cons c t =>
      rw [hc, List.any_cons, Bool.or_eq_false_iff] at hb
      rw [List.cons_append, skL_cons, hb.1]
      rfl
  obtain ⟨e1, e2⟩ := wd_app (n := name.data.toList) (r := F) hb hr
  have hd : wdsL (F.drop 1) = bysL l := by
    rcases hr with e | ⟨t, e⟩
    · rw [e] at hw ⊢
      exact hw
    · rw [e, wdsL_blank] at hw
      rw [e]
      exact hw
  refine ⟨F.drop 1, hTz, hI, by unfold spE; rw [hok]; rfl, ?_, hd, ?_⟩
  · unfold spR
    rw [if_pos hI, hT]
    have e : rqOf (46 :: name.data.toList ++ F) 39 = ⟨wdL (skL (name.data.toList ++ F)), wdsL ((wdR (skL (name.data.toList ++ F))).drop 1), (wdR (skL (name.data.toList ++ F))).drop 1, false⟩ := rfl
    rw [e, hsk, e1, e2, hd]
  · have hl2 := congrArg List.length hT
    rw [List.length_append, List.length_cons, ← size_len] at hl2
    rw [List.length_drop]
    omega
theorem tot_take {l : List ByteArray} {k : Nat} {x : ByteArray} (h : l[k]? = some x) : tot (l.take (k + 1)) = tot (l.take k) + x.size := by
  unfold tot
  rw [List.take_add_one, h, List.map_append, List.sum_append]
  simp
theorem tot_bound (l : List ByteArray) (B : Nat) (h : ∀ x ∈ l, x.size ≤ B) : tot l ≤ l.length * B := by
  induction l with
  | nil => exact Nat.zero_le _
  | cons x t ih =>
    rw [tot_cons, List.length_cons, Nat.add_mul, Nat.one_mul]
    have h1 := ih (fun y hy => h y (List.mem_cons_of_mem _ hy))
    have h2 := h x (List.mem_cons_self ..)
    omega
set_option maxRecDepth 100000 in
set_option maxHeartbeats 3000000 in
/-- RequestBack: any name and arguments. -/
theorem lReqBack (name : ByteArray) (v : Value) (l : List ByteArray) (hn : name.size ≤ 140737488351232) (m : Int) (w : World) (h : SsAt (fun k => k < w.heap.size) w v l) (hm : w.cell? ⟨0, 0, none⟩ = some (.int .i64 m)) :
    Calls Tryd.prog 8 #[.string name, v] w fun e w' => e = .returned (.bool true) ∧ Below w.heap.size w w' := by
  have HSa := Lib.hid (fun w => lSane w)
  have HS := Lib.hid h
  have HM := Lib.hid hm
  obtain ⟨A, cap, rfl, a1, a2, a3⟩ := id h
  have HA := Lib.hid a3
  unfold maxLen at a2
  clear a3 h hm
  by_cases hl : l.length ≤ 30
  · go_enter Tryd.func8, Tryd.ntmps8
    go_wp2_with fail
    go_loop [5, 6] (fun v5 v6 => ∃ k : Nat, k ≤ l.length ∧ v5 = .int .i64 (tot (l.take k) : Nat) ∧ v6 = .int .i64 k ∧ tot (l.take k) ≤ k * 140737488351232) (fun _ v6 => l.length - (intOf v6).toNat)
    case atStart => exact ⟨0, Nat.zero_le _, rfl, rfl, Nat.zero_le _⟩
    case round =>
      obtain ⟨k, hk, rfl, rfl, hb⟩ := hrel
      by_cases hlt : k < l.length
      · obtain ⟨g, off, rfl, _, hr⟩ := HA.out (by omega)
        have hx : l[k]? = some l[k] := List.getElem?_eq_getElem hlt
        obtain ⟨c0, hxz⟩ := hr k _ hx
        rw [Nat.mul_one] at c0
        have htt := tot_take hx
        clear hr hx
        generalize l[k] = x at *
        go_wp2_with fail
        go_round
        case rel => exact ⟨k + 1, hlt, by rw [htt]; go_num, by go_num, by rw [htt]; omega⟩
        case measure => simp [intOf]; omega
      · obtain rfl : k = l.length := by omega
        rw [List.take_length] at hb ⊢
        by_cases hz : (tot l : Int) > 1500
        · go_wp2_with (go_at_call 9; refine (HSa.out _).mono ?_; rintro e w1 ⟨rfl, hb1⟩)
          go_ret
          exact ⟨rfl, hb1⟩
        · have HWr := Lib.hid (cWrite name hn _ _ l m w HS.out (fun k hk => hk) hl (by omega) HM.out)
          go_upto_region 9 with (go_at_call 18
                                 refine HWr.out.mono ?_
                                 rintro e w1 ⟨⟨T, E, rfl, hE⟩, hb1⟩
                                 have HE := Lib.hid hE
                                 have HB1 := Lib.hid hb1
                                 clear hE hb1)
          by_cases hE0 : E = 0
          · subst hE0
            obtain ⟨r, q1, q2, q3, q4, q5, q6⟩ := ok_split (HE.out rfl)
            have HSp : Hid (∀ w, Calls Tryd.prog 19 #[.string T, .int .u8 46, .int .u8 39] w fun e w' => SpOut e w w' T.data.toList 46 39 ∧ Below w.heap.size w w') := Lib.hid (fun w => cSplit T 46 39 (by omega) w)
            unfold SpOut at HSp
            rw [q2, q3, q4] at HSp
            have HNm : Hid (baO name.data.toList = name) := Lib.hid rfl
            simp only [ba_bys, baO_back] at HSp
            have hrz : (baO r).size ≤ 1000000 := by show r.toArray.size ≤ _; rw [List.size_toArray]; omega
            have HWd := Lib.hid (fun w => cWords (baO r) hrz w)
            have hwt : wdsT (baO r) = l := by rw [wds_same]; exact q5
            rw [hwt] at HWd
            have HL := Lib.hid (fun K K2 v v2 w h h2 => lList K K2 v v2 l w h h2)
            clear q1 q2 q3 q4 q5 q6 hwt hrz HE HWr
            generalize baO r = rs at *
            go_wp2_with (first
              | (go_at_call 19
                 refine (HSp.out _).mono ?_
                 rintro e w2 ⟨⟨v1, rfl, hv1⟩, hb2⟩
                 obtain ⟨A1, c1, rfl, _⟩ := id hv1
                 have hb3 := (HB1.out.trans (hb2.mono HB1.out.size))
                 have HB3 := Lib.hid (hb3.alloc hb3.size (.cells #[.string name, .slice A1 l.length c1, .string rs, .bool false] 42))
                 have HX3 := Lib.hid (Blk.new w2 42 #[.string name, .slice A1 l.length c1, .string rs, .bool false])
                 have HV3 := Lib.hid (hv1.stay (K' := fun k => k < (w2.alloc (.cells #[.string name, .slice A1 l.length c1, .string rs, .bool false] 42)).heap.size) (Kept.of_below ((Below.refl w2.heap.size w2).alloc (Nat.le_refl _) (.cells #[.string name, .slice A1 l.length c1, .string rs, .bool false] 42)) (fun i hi => hi.2)) (fun i hi => by rw [World.size_alloc]; omega))
                 have HS3 := Lib.hid (HS.out.stay (K' := fun k => k < w.heap.size) (Kept.of_below HB3.out (fun i hi => hi)) (fun i hi => hi))
                 clear hv1 hb2 hb3)
              | (go_at_call 11
                 first
                 | (refine (HL.out _ _ _ _ _ HV5.out HS5.out).mono ?_
                    rintro e w6 ⟨rfl, hb⟩
                    have HB6 := Lib.hid (HB5.out.trans (hb.mono HB5.out.size))
                    clear hb)
                 | (refine (HL.out _ _ _ _ _ HV3.out HS3.out).mono ?_
                    rintro e w4 ⟨rfl, hb⟩
                    have HB4 := Lib.hid (HB3.out.trans (hb.mono HB3.out.size))
                    have hx := HX3.out.below hb HX3.out.lt
                    have x2 := hx.cell 2
                    simp only [List.getElem?_toArray, List.getElem?_cons_zero, List.getElem?_cons_succ] at x2
                    clear hb hx))
              | (go_at_call 12
                 refine (HWd.out _).mono ?_
                 rintro e w5 ⟨v5, rfl, hv5, hb⟩
                 obtain ⟨A5, c5, rfl, _⟩ := id hv5
                 have HV5 := Lib.hid hv5
                 have HB5 := Lib.hid (HB4.out.trans (hb.mono HB4.out.size))
                 have HS5 := Lib.hid (HS.out.stay (K' := fun k => k < w.heap.size) (Kept.of_below HB5.out (fun i hi => hi)) (fun i hi => hi))
                 clear hv5 hb)
              | (go_at_call 9
                 refine (HSa.out _).mono ?_
                 rintro e w7 ⟨rfl, hb⟩
                 have HB7 := Lib.hid (HB6.out.trans (hb.mono HB6.out.size))
                 clear hb))
            go_ret
            exact ⟨rfl, HB7.out⟩
          · have hEB : (E != 0) = true := by simp [hE0]
            go_wp2_with (go_at_call 9; refine (HSa.out _).mono ?_; rintro e w2 ⟨rfl, hb2⟩; have HB2 := Lib.hid (HB1.out.trans (hb2.mono HB1.out.size)); clear hb2)
            go_ret
            exact ⟨rfl, HB2.out⟩
  · go_enter Tryd.func8, Tryd.ntmps8
    go_wp2_with fail
    go_loop [5, 6] (fun v5 v6 => ∃ (k : Nat) (n : Int), k ≤ l.length ∧ v5 = .int .i64 n ∧ v6 = .int .i64 k) (fun _ v6 => l.length - (intOf v6).toNat)
    case atStart => exact ⟨0, 0, Nat.zero_le _, rfl, rfl⟩
    case round =>
      obtain ⟨k, n, hk, rfl, rfl⟩ := hrel
      by_cases hlt : k < l.length
      · obtain ⟨g, off, rfl, _, hr⟩ := HA.out (by omega)
        have hx : l[k]? = some l[k] := List.getElem?_eq_getElem hlt
        obtain ⟨c0, hxz⟩ := hr k _ hx
        rw [Nat.mul_one] at c0
        clear hr hx
        generalize l[k] = x at *
        go_wp2_with fail
        go_round
        case rel => exact ⟨k + 1, _, hlt, rfl, by go_num⟩
        case measure => simp [intOf]; omega
      · have hgt : (l.length : Int) > 30 := by omega
        by_cases hz : n > 1500
        all_goals
          go_wp2_with (go_at_call 9; refine (HSa.out _).mono ?_; rintro e w1 ⟨rfl, hb1⟩)
          go_ret
          exact ⟨rfl, hb1⟩
end Go.Proofs.YtfcbpehgkpmniaaDoor
