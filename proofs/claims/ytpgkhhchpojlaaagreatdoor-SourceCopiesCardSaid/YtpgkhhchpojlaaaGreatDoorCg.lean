/- Walk of the code's stack: whether lines are right, by a store that is asked. -/
import Derived.Test.YtpgkhhchpojlaaaGreatDoorVo
import Derived.Test.YtpgkhhchpojlaaaGreatDoorCa
namespace Go.Proofs.YtpgkhhchpojlaaaGreatDoor.Sto
open Go.RowKit Go.Maps Go.WideMaps

theorem ib_any : ∀ l : List UInt8, decide (0 ≤ Lib.indexByte l 10) = l.any (· == 10)
  | [] => rfl
  | b :: l => by
    have ih := ib_any l
    have hg := Lib.indexByte_ge l 10
    have e : Lib.indexByte (b :: l) 10 = if b == 10 then 0 else if Lib.indexByte l 10 == -1 then -1 else Lib.indexByte l 10 + 1 := rfl
    rw [List.any_cons, ← ih, e]
    clear e ih
    split
    · rename_i h
      rw [h]; rfl
    · rename_i h
      rw [show (b == 10) = false by simpa using h, Bool.false_or]
      split
      · rename_i h2
        have h2 : Lib.indexByte l 10 = -1 := by simpa using h2
        rw [h2]
      · rename_i h2
        have h2 : Lib.indexByte l 10 ≠ -1 := by simpa using h2
        exact decide_eq_decide.2 (by omega)
theorem noLf_all (s : ByteArray) : noLf s = allB (fun c => decide (c ≠ 10)) s := by
  unfold noLf allB
  rw [ib_any]
  induction s.data.toList with
  | nil => rfl
  | cons b l ih =>
    rw [List.any_cons, List.all_cons, ← ih, Bool.not_or]
    congr 1
    rw [Bool.eq_iff_iff]
    simp only [Bool.not_eq_true', beq_eq_false_iff_ne, ne_eq, decide_eq_true_eq]
    constructor
    · intro h e
      exact h (UInt8.toNat_inj.1 e)
    · intro h e
      exact h (by rw [e]; rfl)
theorem textB_doc (s : ByteArray) : textB s = Proofs.YtpgkhhchpojlaaaGreatDoor.textB s := by
  unfold textB Proofs.YtpgkhhchpojlaaaGreatDoor.textB
  rw [noLf_all]
  rfl
theorem lnF_doc (t : ByteArray) (m : Bool) (u d : Int) (n : Nat) : lnF t m u d n = Proofs.YtpgkhhchpojlaaaGreatDoor.lnF t m u d n := by
  unfold lnF Proofs.YtpgkhhchpojlaaaGreatDoor.lnF
  rw [textB_doc]
  rfl
theorem lnsB_doc (ls : List Ln) : lnsB ls = Proofs.YtpgkhhchpojlaaaGreatDoor.lnsB ls := by
  unfold lnsB Proofs.YtpgkhhchpojlaaaGreatDoor.lnsB
  congr 1
  funext l
  exact lnF_doc _ _ _ _ _
def nmLs : ByteArray := ⟨#[108, 105, 110, 101, 115]⟩
theorem nmLs_ok : nameB nmLs = true := by decide +kernel
theorem full_new (s : ByteArray) : fullB [] s = false := by simp [fullB]
end Go.Proofs.YtpgkhhchpojlaaaGreatDoor.Sto
namespace Go.Proofs.YtpgkhhchpojlaaaGreatDoor
open Go.RowKit Go.Maps Go.WideMaps
/-- validLines. -/
theorem cValidLines (K : Nat → Prop) (v : Value) (ls : List Ln) (w : World) (hv : LnsAt K w v ls) (hK : ∀ k, K k → k < w.heap.size) :
    Calls Tryz.prog 47 #[v] w fun e w' => e = .returned (.bool (lsOk ls)) ∧ Below w.heap.size w w' := by
  obtain ⟨A, c, rfl, hn1, hn2, _⟩ := id hv
  unfold maxLen at hn2
  by_cases h2 : ls.length ≤ 20000
  · have hi : ((ls.length : Nat) : Int) ≤ 20000 := by omega
    have HN := Lib.hid (Sto.cNew w (fun _ => .str ⟨#[]⟩))
    have HM : Hid (∀ w1, Sto.StAt (· = w.heap.size) (fun _ => False) (fun _ => none) w1 (w.heap.size + 1) w.heap.size [] (fun _ => .str ⟨#[]⟩) → Below w.heap.size w w1 → Calls Tryz.prog 69 #[.pointer (some ⟨w.heap.size + 1, 0, none⟩), .string ⟨#[108, 105, 110, 101, 115]⟩, .slice A ls.length c] w1 fun e w' => ∃ k, e = .returned (.int .i64 k) ∧ (k != 1) = lsOk ls ∧ Below w.heap.size w w') := Lib.hid (fun w1 hs hb => by
      refine (Sto.cMacro Sto.nmLs K _ ls (by decide) hs (hv.stay (Kept.of_below hb hK) (fun _ h => h)) (fun k hk => Nat.lt_of_lt_of_le (hK k hk) hb.size)).mono ?_
      rintro e w' ⟨rfl, hp⟩
      refine ⟨_, rfl, ?_, ?_⟩
      · have hfl : Sto.putE [] Sto.nmLs = 0 := by unfold Sto.putE; rw [Sto.full_new]; rfl
        unfold Sto.mcE Sto.chk
        rw [Sto.lnsB_doc, Sto.nmLs_ok]
        unfold lsOk
        rw [decide_eq_true h2, Bool.and_true]
        cases lnsB ls
        · rfl
        · simp only [if_true]
          unfold erI
          simp only [if_true]
          split
          · rfl
          · rw [hfl]; rfl
      · unfold Sto.PutEnd at hp
        obtain ⟨hp1, hp2⟩ := hp
        by_cases h0 : Sto.mcE [] Sto.nmLs ls = 0
        · obtain ⟨_, _, _, _, _, hT, _⟩ := hp2 h0
          exact hT.below hb hb.size (fun i hi => by omega)
        · exact hb.trans ((hp1 h0).mono hb.size))
    clear hv
    go_enter Tryz.func47, Tryz.ntmps47
    go_wp2_with (first
      | (go_at_call 68; refine HN.out.mono ?_; rintro e w1 ⟨rfl, hs, hb⟩; have HM1 := Lib.hid (HM.out _ hs hb); clear hs)
      | (go_at_call 69; refine HM1.out.mono ?_; rintro e w2 ⟨k, rfl, hk, hb2⟩))
    go_ret
    exact ⟨rfl, hb2⟩
  · have hi : ¬ ((ls.length : Nat) : Int) ≤ 20000 := by omega
    have hl : lsOk ls = false := by unfold lsOk; rw [decide_eq_false h2, Bool.and_false]
    rw [hl]
    clear hv
    go_enter Tryz.func47, Tryz.ntmps47
    go_wp2_with fail
    go_ret
    exact ⟨rfl, Below.refl _ _⟩
end Go.Proofs.YtpgkhhchpojlaaaGreatDoor
