/- Walks of the document's stack: File, Macro, Wait. Walk of the document's stack: Macro. -/
import Derived.Test.YtpgkhhchpojlaaaGreatDoorKz
import Derived.Test.YtpgkhhchpojlaaaGreatDoorKe
import Derived.Test.YtpgkhhchpojlaaaGreatDoorKb
import Derived.Test.YtpgkhhchpojlaaaGreatDoorEe
import Derived.Test.YtpgkhhchpojlaaaGreatDoorEf
namespace Go.Proofs.YtpgkhhchpojlaaaGreatDoor
open Go.RowKit Go.Maps Go.WideMaps

section
variable {U K : Nat → Prop} {w w' : World} {x : Nat} {fs : List Fr}
set_option maxRecDepth 100000 in
/-- File. -/
theorem nFile (n t : ByteArray) (hs : n.size ≤ maxLen) (ht : t.size ≤ 1000000) (h : RKt U K w x fs) :
    Calls Tryz.prog 24 #[.pointer (some ⟨x, 0, none⟩), .string n, .string t] w fun e w' => e = .returned (.int .i64 (putE (nmdB n && rdB t) fs)) ∧ KTo U K w w' x (putF (nmdB n && rdB t) fs (filFr n t)) := by
  have HR := Lib.hid (nRead t ht w)
  have HZ := Lib.hid (fun (w1 : World) (hb : Below w.heap.size w w1) => nNo (h.below hb))
  have HN := Lib.hid (fun w => nNamed n hs w)
  have HS := Lib.hid (fun w' (hb : Below w.heap.size w w') => KTo.same h hb)
  have HP := Lib.hid (fun (w1 : World) (A : Option Addr) (k c : Nat) (hb : Below w.heap.size w w1) (hn : nmdB n = true) (hr : rdB t = true) (hl : LnsAt (fun k => w.heap.size ≤ k ∧ k < w1.heap.size) w1 (.slice A k c) (rdL t)) =>
    nPush (filFr n t) A k c none 0 0 (filFr_ok hn hr) ⟨hl.stay (fun _ _ _ => rfl) (fun i hi => .inr hi), RowAt.nil⟩ (h.since hb))
  unfold putE putF
  clear h
  cases hn : nmdB n
  · rw [hn] at HN
    rw [Bool.false_and]
    simp only [Bool.false_eq_true, if_false]
    go_enter Tryz.func24, Tryz.ntmps24
    go_wp2_with (first
      | (go_at_call 58; refine HR.out.mono ?_; rintro e w1 ⟨A, k, c, rfl, hl, hb1⟩)
      | (go_at_call 43; refine (HZ.out _ hb1).mono ?_; rintro e w2 ⟨rfl, rfl⟩)
      | (go_at_call 59; refine (HN.out _).mono ?_; rintro e w2 ⟨rfl, rfl⟩))
    go_ret
    exact ⟨rfl, HS.out _ hb1⟩
  · rw [hn] at HN
    have HP2 := Lib.hid (fun w1 A k c hb hr hl => HP.out w1 A k c hb hn hr hl)
    clear HP
    rw [Bool.true_and]
    cases hr : rdB t
    · rw [hr] at HR
      simp only [Bool.false_eq_true, if_false]
      go_enter Tryz.func24, Tryz.ntmps24
      go_wp2_with (first
        | (go_at_call 58; refine HR.out.mono ?_; rintro e w1 ⟨A, k, c, rfl, _, hb1⟩)
        | (go_at_call 43; refine (HZ.out _ hb1).mono ?_; rintro e w2 ⟨rfl, rfl⟩)
        | (go_at_call 59; refine (HN.out _).mono ?_; rintro e w2 ⟨rfl, rfl⟩))
      go_ret
      exact ⟨rfl, HS.out _ hb1⟩
    · have HP3 := Lib.hid (fun w1 A k c hb hl => HP2.out w1 A k c hb hr hl)
      clear HP2
      rw [hr] at HR
      simp only [if_true]
      go_enter Tryz.func24, Tryz.ntmps24
      go_wp2_with (first
        | (go_at_call 58; refine HR.out.mono ?_; rintro e w1 ⟨A, k, c, rfl, hl, hb1⟩; have HL := Lib.hid (hl rfl); clear hl)
        | (go_at_call 43; refine (HZ.out _ hb1).mono ?_; rintro e w2 ⟨rfl, rfl⟩)
        | (go_at_call 59; refine (HN.out _).mono ?_; rintro e w2 ⟨rfl, rfl⟩)
        | (go_at_call 60; refine (HP3.out _ _ _ _ hb1 HL.out).mono ?_; rintro e w3 ⟨rfl, hq⟩))
      go_ret
      exact ⟨rfl, KTo.since hb1 hq⟩
set_option maxRecDepth 100000 in
/-- Wait. -/
theorem nWait (K0 : Nat → Prop) (v : Value) (ls : List Ln) (hll : ls.length ≤ 10000000000000) (hv : LnsAt K0 w v ls) (hK0 : ∀ k, K0 k → k < w.heap.size) (h : RKt U K w x fs) :
    Calls Tryz.prog 26 #[.pointer (some ⟨x, 0, none⟩), v] w fun e w' => e = .returned (.int .i64 (putE (lsOk ls) fs)) ∧ KTo U K w w' x (putF (lsOk ls) fs (waiFr ls)) := by
  have HZ := Lib.hid (nNo h)
  have HT := Lib.hid (nLns K0 v ls w hv hK0)
  have HS := Lib.hid (fun w' (hb : Below w.heap.size w w') => KTo.same h hb)
  obtain ⟨Av, cv, rfl, hn1, _, _⟩ := id hv
  unfold putE putF lsOk
  cases hx : lnsB ls
  · rw [hx] at HT
    rw [Bool.false_and]
    simp only [Bool.false_eq_true, if_false]
    clear h hv
    go_enter Tryz.func26, Tryz.ntmps26
    go_wp2_with (first
      | (go_at_call 43; refine HZ.out.mono ?_; rintro e w1 ⟨rfl, rfl⟩)
      | (go_at_call 61; refine HT.out.mono ?_; rintro e w1 ⟨rfl, hb1⟩))
    go_ret
    exact ⟨rfl, HS.out _ hb1⟩
  · rw [hx] at HT
    rw [Bool.true_and]
    by_cases hl : ls.length ≤ 20000
    · rw [decide_eq_true hl]
      simp only [if_true]
      have hli : ¬ (20000 : Int) < (ls.length : Nat) := by omega
      have HO := Lib.hid (fun (w1 : World) (hb : Below w.heap.size w w1) => nOwnAll (.slice Av ls.length cv) ls (hv.stay (Kept.of_below hb hK0) (fun _ h => h)) (fun k hk => Nat.lt_of_lt_of_le (hK0 k hk) hb.size) (by omega))
      have HP := Lib.hid (fun (w1 w2 : World) (A : Option Addr) (n c : Nat) (hb1 : Below w.heap.size w w1) (hb2 : Below w1.heap.size w1 w2) (hl2 : LnsAt (fun k => w1.heap.size ≤ k ∧ k < w2.heap.size) w2 (.slice A n c) ls) =>
        nPush (waiFr ls) A n c none 0 0 ⟨.inr (.inr rfl), by show 0 ≤ _; omega, hl, by show 0 * 16 ≤ _; omega, Nat.zero_le _⟩ ⟨hl2.stay (fun _ _ _ => rfl) (fun i hi => .inr ⟨Nat.le_trans hb1.size hi.1, hi.2⟩), RowAt.nil⟩ (h.since (ntrans hb1 hb2)))
      clear h hv
      go_enter Tryz.func26, Tryz.ntmps26
      go_wp2_with (first
        | (go_at_call 43; refine HZ.out.mono ?_; rintro e w1 ⟨rfl, rfl⟩)
        | (go_at_call 61; refine HT.out.mono ?_; rintro e w1 ⟨rfl, hb1⟩)
        | (go_at_call 44; refine (HO.out _ hb1).mono ?_; rintro e w2 ⟨v', rfl, hv', hb2⟩; obtain ⟨A2, n2, c2, rfl⟩ : ∃ A n c, v' = .slice A n c := (by obtain ⟨A, c, e, _⟩ := hv'; exact ⟨A, _, c, e⟩); have HV := Lib.hid hv'; clear hv')
        | (go_at_call 60; refine (HP.out _ _ _ _ _ hb1 hb2 HV.out).mono ?_; rintro e w3 ⟨rfl, hq⟩))
      go_ret
      exact ⟨rfl, KTo.since (ntrans hb1 hb2) hq⟩
    · rw [decide_eq_false hl]
      simp only [Bool.false_eq_true, if_false]
      have hli : (20000 : Int) < (ls.length : Nat) := by omega
      clear h hv
      go_enter Tryz.func26, Tryz.ntmps26
      go_wp2_with (first
        | (go_at_call 43; refine HZ.out.mono ?_; rintro e w1 ⟨rfl, rfl⟩)
        | (go_at_call 61; refine HT.out.mono ?_; rintro e w1 ⟨rfl, hb1⟩))
      go_ret
      exact ⟨rfl, HS.out _ hb1⟩
end
end Go.Proofs.YtpgkhhchpojlaaaGreatDoor
namespace Go.Proofs.YtpgkhhchpojlaaaGreatDoor
open Go.RowKit Go.Maps Go.WideMaps

section
variable {U K : Nat → Prop} {w w' : World} {x : Nat} {fs : List Fr}
set_option maxRecDepth 100000 in
set_option maxHeartbeats 1000000 in
/-- Macro. -/
theorem nMacro (n : ByteArray) (K0 : Nat → Prop) (v v2 : Value) (ls : List Ln) (ags : List ByteArray) (hs : n.size ≤ maxLen) (hll : ls.length ≤ 10000000000000) (haz : ags.length * 16 ≤ 140737488355328) (hv : LnsAt K0 w v ls) (hv2 : SsAt K0 w v2 ags) (hK0 : ∀ k, K0 k → k < w.heap.size) (h : RKt U K w x fs) :
    Calls Tryz.prog 25 #[.pointer (some ⟨x, 0, none⟩), .string n, v, v2] w fun e w' => e = .returned (.int .i64 (putE (nmdB n && lsOk ls) fs)) ∧ KTo U K w w' x (putF (nmdB n && lsOk ls) fs (macFr n ls ags)) := by
  have HZ := Lib.hid (nNo h)
  have HN := Lib.hid (fun w => nNamed n hs w)
  have HT := Lib.hid (nLns K0 v ls w hv hK0)
  have HS := Lib.hid (fun w' (hb : Below w.heap.size w w') => KTo.same h hb)
  obtain ⟨Av, cv, rfl, hn1, _, _⟩ := id hv
  obtain ⟨Aa, ca, rfl, ha1, _, _⟩ := id hv2
  unfold putE putF lsOk
  cases hn : nmdB n
  · rw [hn] at HN
    rw [Bool.false_and]
    simp only [Bool.false_eq_true, if_false]
    clear h hv hv2
    go_enter Tryz.func25, Tryz.ntmps25
    go_wp2_with (first
      | (go_at_call 43; refine HZ.out.mono ?_; rintro e w1 ⟨rfl, rfl⟩)
      | (go_at_call 59; refine (HN.out _).mono ?_; rintro e w2 ⟨rfl, rfl⟩))
    go_ret
    exact ⟨rfl, HS.out _ (Below.refl _ _)⟩
  · rw [hn] at HN
    rw [Bool.true_and]
    cases hx : lnsB ls
    · rw [hx] at HT
      rw [Bool.false_and]
      simp only [Bool.false_eq_true, if_false]
      clear h hv hv2
      go_enter Tryz.func25, Tryz.ntmps25
      go_wp2_with (first
        | (go_at_call 43; refine HZ.out.mono ?_; rintro e w1 ⟨rfl, rfl⟩)
        | (go_at_call 59; refine (HN.out _).mono ?_; rintro e w2 ⟨rfl, rfl⟩)
        | (go_at_call 61; refine HT.out.mono ?_; rintro e w1 ⟨rfl, hb1⟩))
      go_ret
      exact ⟨rfl, HS.out _ hb1⟩
    · rw [hx] at HT
      rw [Bool.true_and]
      by_cases hl : ls.length ≤ 20000
      · rw [decide_eq_true hl]
        simp only [if_true]
        have hli : ¬ (20000 : Int) < (ls.length : Nat) := by omega
        have HO := Lib.hid (fun (w1 : World) (hb : Below w.heap.size w w1) => nOwnAll (.slice Av ls.length cv) ls (hv.stay (Kept.of_below hb hK0) (fun _ h => h)) (fun k hk => Nat.lt_of_lt_of_le (hK0 k hk) hb.size) (by omega))
        have HA := Lib.hid (fun (w1 : World) (ty : TypeId) (hb : Below w.heap.size w w1) => runSs w1 ty Aa ags.length ca ags (hv2.stay (Kept.of_below hb hK0) (fun _ h => h)) haz)
        have hok : (macFr n ls ags).Ok := ⟨.inr (.inl rfl), by unfold nmdB at hn; rw [Bool.and_eq_true, decide_eq_true_eq, decide_eq_true_eq] at hn; exact hn.2, hl, haz, Nat.zero_le _⟩
        have HP := Lib.hid (fun (w1 w2 w3 : World) (A : Option Addr) (k c : Nat) (A2 : Option Addr) (c2 : Nat) (hb1 : Below w.heap.size w w1) (hb2 : Below w1.heap.size w1 w2) (hb3 : Below w2.heap.size w2 w3) (hl2 : LnsAt (fun k => w1.heap.size ≤ k ∧ k < w2.heap.size) w2 (.slice A k c) ls) (ha2 : SsAt (fun k => w2.heap.size ≤ k ∧ k < w3.heap.size) w3 (.slice A2 ags.length c2) ags) =>
          nPush (macFr n ls ags) A k c A2 ags.length c2 hok ⟨hl2.stay (Kept.of_below hb3 (fun i hi => hi.2)) (fun i hi => .inr ⟨Nat.le_trans hb1.size hi.1, Nat.lt_of_lt_of_le hi.2 hb3.size⟩), ha2.stay (fun _ _ _ => rfl) (fun i hi => .inr ⟨Nat.le_trans (Nat.le_trans hb1.size hb2.size) hi.1, hi.2⟩)⟩ (h.since (ntrans (ntrans hb1 hb2) hb3)))
        clear h hv hv2 hok
        go_enter Tryz.func25, Tryz.ntmps25
        go_wp2_with (first
          | (go_at_call 43; refine HZ.out.mono ?_; rintro e w1 ⟨rfl, rfl⟩)
          | (go_at_call 59; refine (HN.out _).mono ?_; rintro e w2 ⟨rfl, rfl⟩)
          | (go_at_call 61; refine HT.out.mono ?_; rintro e w1 ⟨rfl, hb1⟩)
          | (go_at_call 44; refine (HO.out _ hb1).mono ?_; rintro e w2 ⟨v', rfl, hv', hb2⟩; obtain ⟨A2, n2, c2, rfl⟩ : ∃ A n c, v' = .slice A n c := (by obtain ⟨A, c, e, _⟩ := hv'; exact ⟨A, _, c, e⟩); have HV := Lib.hid hv'; clear hv'; obtain ⟨A3, c3, w3, qrun, hss, hb3, _⟩ := HA.out w2 36 (ntrans hb1 hb2); have HSs := Lib.hid hss; clear hss)
          | (at_builtin; refine wpList_append_run _ rfl (.tmp 30) (.tmp 31) _ rfl _ _ rfl rfl _ _ qrun ?_; clear qrun)
          | (go_at_call 60; refine (HP.out _ _ _ _ _ _ _ _ hb1 hb2 hb3 HV.out HSs.out).mono ?_; rintro e w4 ⟨rfl, hq⟩))
        go_ret
        exact ⟨rfl, KTo.since (ntrans (ntrans hb1 hb2) hb3) hq⟩
      · rw [decide_eq_false hl]
        simp only [Bool.false_eq_true, if_false]
        have hli : (20000 : Int) < (ls.length : Nat) := by omega
        clear h hv hv2
        go_enter Tryz.func25, Tryz.ntmps25
        go_wp2_with (first
          | (go_at_call 43; refine HZ.out.mono ?_; rintro e w1 ⟨rfl, rfl⟩)
          | (go_at_call 59; refine (HN.out _).mono ?_; rintro e w2 ⟨rfl, rfl⟩)
          | (go_at_call 61; refine HT.out.mono ?_; rintro e w1 ⟨rfl, hb1⟩))
        go_ret
        exact ⟨rfl, HS.out _ hb1⟩
end
end Go.Proofs.YtpgkhhchpojlaaaGreatDoor
