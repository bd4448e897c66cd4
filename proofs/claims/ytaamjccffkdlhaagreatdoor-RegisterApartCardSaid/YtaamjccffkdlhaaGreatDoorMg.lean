/- Walks: the document's Set, Step, Format. -/
import Derived.Test.YtaamjccffkdlhaaGreatDoorMf
import Derived.Test.YtaamjccffkdlhaaGreatDoorMb
import Derived.Test.YtaamjccffkdlhaaGreatDoorRc
namespace Go.Proofs.YtaamjccffkdlhaaGreatDoor
open Go.RowKit Go.Maps Go.WideMaps Go.Joins

/-- put, at a new block. -/
theorem nPutAt (s : ByteArray) (r : Reg) (b x : Nat) (v : Value) (L : List Ent) (hl : L.length ≤ 500) (w w1 : World) (h : RfAt b w x v L) (hbw : b ≤ w.heap.size) (hb1 : Below w.heap.size w w1) (o : Obj) :
    Calls Tryz.prog 51 #[.pointer (some ⟨x, 0, none⟩), rVal s r] (w1.alloc o) fun e w' => e = .returned (.int .i64 (putE L s)) ∧ RfTo b w x v w' (putL L s r) := by
  have hb2 := hb1.alloc hb1.size o
  refine (nPut s r b x v L hl _ (h.below hb2) (Nat.le_trans hbw hb2.size)).mono ?_
  rintro e w' ⟨rfl, ht⟩
  exact ⟨rfl, ht.then_ hb2 h.blk.lt⟩
set_option maxHeartbeats 400000 in
/-- Set, of the document's book. -/
theorem nSet (n : Int) (s : ByteArray) (hs : s.size ≤ maxLen) (b x : Nat) (v : Value) (L : List Ent) (hl : L.length ≤ 500) (w : World) (h : RfAt b w x v L) (hbw : b ≤ w.heap.size) :
    Calls Tryz.prog 26 #[.pointer (some ⟨x, 0, none⟩), .string s, .int .i64 n] w fun e w' =>
      e = .returned (.int .i64 (chE L s (erI (rngB n) 5))) ∧ RfTo b w x v w' (chL L s (erI (rngB n) 5) { rdR L s with v := n }) := by
  have HN := Lib.hid (fun w => nName s hs w)
  have HF := Lib.hid (fun w => nFit n w)
  have HG := Lib.hid (nGet s b x v L hl w h)
  have H := Lib.hid h
  have HX := Lib.hid h.blk.lt
  clear h
  have HS : Hid (∀ w', Below w.heap.size w w' → RfTo b w x v w' L) := Lib.hid (fun w' hb => RfTo.stay H.out hb)
  cases hn : nameB s
  · rw [hn] at HN
    have e1 : chE L s (erI (rngB n) 5) = 6 := by unfold chE; rw [hn]; rfl
    have e2 : chL L s (erI (rngB n) 5) { rdR L s with v := n } = L := by unfold chL; rw [hn]; rfl
    rw [e1, e2]
    go_enter Tryz.func26, Tryz.ntmps26
    go_wp2_with (go_at_call 48; refine (HN.out _).mono ?_; rintro e w1 ⟨rfl, rfl⟩)
    go_ret
    exact ⟨rfl, HS.out _ (Below.refl _ _)⟩
  · rw [hn] at HN
    cases hr : rngB n
    · rw [hr] at HF
      have e1 : chE L s (erI false 5) = 5 := by unfold chE; rw [hn]; rfl
      have e2 : chL L s (erI false 5) { rdR L s with v := n } = L := by unfold chL; rw [hn]; rfl
      rw [e1, e2]
      go_enter Tryz.func26, Tryz.ntmps26
      go_wp2_with (first
        | (go_at_call 48; refine (HN.out _).mono ?_; rintro e w1 ⟨rfl, rfl⟩)
        | (go_at_call 49; refine (HF.out _).mono ?_; rintro e w1 ⟨rfl, rfl⟩))
      go_ret
      exact ⟨rfl, HS.out _ (Below.refl _ _)⟩
    · rw [hr] at HF
      have e1 : chE L s (erI true 5) = putE L s := by unfold chE putE; rw [hn]; rfl
      have e2 : chL L s (erI true 5) { rdR L s with v := n } = putL L s { getR L s with v := n } := by unfold chL putL rdR; rw [hn]; rfl
      rw [e1, e2]
      clear e1 e2 hn hr HS
      generalize getR L s = R at HG ⊢
      have HP := Lib.hid (fun w1 hb1 o => nPutAt s ⟨n, R.s, R.f⟩ b x v L hl w w1 H.out hbw hb1 o)
      unfold rVal at HP
      unfold rVal at HG
      go_enter Tryz.func26, Tryz.ntmps26
      go_wp2_with (first
        | (go_at_call 48; refine (HN.out _).mono ?_; rintro e w1 ⟨rfl, rfl⟩)
        | (go_at_call 49; refine (HF.out _).mono ?_; rintro e w1 ⟨rfl, rfl⟩)
        | (go_at_call 50; refine HG.out.mono ?_; rintro e w1 ⟨rfl, hb1⟩)
        | (go_at_call 51; refine (HP.out _ hb1 _).mono ?_; rintro e w2 ⟨rfl, ht⟩))
      go_ret
      exact ⟨rfl, ht⟩
set_option maxHeartbeats 400000 in
/-- Step, of the document's book. -/
theorem nStep (n : Int) (s : ByteArray) (hs : s.size ≤ maxLen) (b x : Nat) (v : Value) (L : List Ent) (hl : L.length ≤ 500) (w : World) (h : RfAt b w x v L) (hbw : b ≤ w.heap.size) :
    Calls Tryz.prog 27 #[.pointer (some ⟨x, 0, none⟩), .string s, .int .i64 n] w fun e w' =>
      e = .returned (.int .i64 (chE L s (erI (rngB n) 5))) ∧ RfTo b w x v w' (chL L s (erI (rngB n) 5) { rdR L s with s := n }) := by
  have HN := Lib.hid (fun w => nName s hs w)
  have HF := Lib.hid (fun w => nFit n w)
  have HG := Lib.hid (nGet s b x v L hl w h)
  have H := Lib.hid h
  have HX := Lib.hid h.blk.lt
  clear h
  have HS : Hid (∀ w', Below w.heap.size w w' → RfTo b w x v w' L) := Lib.hid (fun w' hb => RfTo.stay H.out hb)
  cases hn : nameB s
  · rw [hn] at HN
    have e1 : chE L s (erI (rngB n) 5) = 6 := by unfold chE; rw [hn]; rfl
    have e2 : chL L s (erI (rngB n) 5) { rdR L s with s := n } = L := by unfold chL; rw [hn]; rfl
    rw [e1, e2]
    go_enter Tryz.func27, Tryz.ntmps27
    go_wp2_with (go_at_call 48; refine (HN.out _).mono ?_; rintro e w1 ⟨rfl, rfl⟩)
    go_ret
    exact ⟨rfl, HS.out _ (Below.refl _ _)⟩
  · rw [hn] at HN
    cases hr : rngB n
    · rw [hr] at HF
      have e1 : chE L s (erI false 5) = 5 := by unfold chE; rw [hn]; rfl
      have e2 : chL L s (erI false 5) { rdR L s with s := n } = L := by unfold chL; rw [hn]; rfl
      rw [e1, e2]
      go_enter Tryz.func27, Tryz.ntmps27
      go_wp2_with (first
        | (go_at_call 48; refine (HN.out _).mono ?_; rintro e w1 ⟨rfl, rfl⟩)
        | (go_at_call 49; refine (HF.out _).mono ?_; rintro e w1 ⟨rfl, rfl⟩))
      go_ret
      exact ⟨rfl, HS.out _ (Below.refl _ _)⟩
    · rw [hr] at HF
      have e1 : chE L s (erI true 5) = putE L s := by unfold chE putE; rw [hn]; rfl
      have e2 : chL L s (erI true 5) { rdR L s with s := n } = putL L s { getR L s with s := n } := by unfold chL putL rdR; rw [hn]; rfl
      rw [e1, e2]
      clear e1 e2 hn hr HS
      generalize getR L s = R at HG ⊢
      have HP := Lib.hid (fun w1 hb1 o => nPutAt s ⟨R.v, n, R.f⟩ b x v L hl w w1 H.out hbw hb1 o)
      unfold rVal at HP
      unfold rVal at HG
      go_enter Tryz.func27, Tryz.ntmps27
      go_wp2_with (first
        | (go_at_call 48; refine (HN.out _).mono ?_; rintro e w1 ⟨rfl, rfl⟩)
        | (go_at_call 49; refine (HF.out _).mono ?_; rintro e w1 ⟨rfl, rfl⟩)
        | (go_at_call 50; refine HG.out.mono ?_; rintro e w1 ⟨rfl, hb1⟩)
        | (go_at_call 51; refine (HP.out _ hb1 _).mono ?_; rintro e w2 ⟨rfl, ht⟩))
      go_ret
      exact ⟨rfl, ht⟩
set_option maxHeartbeats 400000 in
/-- Format, of the document's book. -/
theorem nFormat (F : ByteArray) (hF : F.size ≤ maxLen) (s : ByteArray) (hs : s.size ≤ maxLen) (b x : Nat) (v : Value) (L : List Ent) (hl : L.length ≤ 500) (w : World) (h : RfAt b w x v L) (hbw : b ≤ w.heap.size) :
    Calls Tryz.prog 28 #[.pointer (some ⟨x, 0, none⟩), .string s, .string F] w fun e w' =>
      e = .returned (.int .i64 (chE L s (erI (fmtB F) 4))) ∧ RfTo b w x v w' (chL L s (erI (fmtB F) 4) { rdR L s with f := F }) := by
  have HN := Lib.hid (fun w => nName s hs w)
  have HF := Lib.hid (fun w => nForm F hF w)
  have HG := Lib.hid (nGet s b x v L hl w h)
  have H := Lib.hid h
  have HX := Lib.hid h.blk.lt
  clear h
  have HS : Hid (∀ w', Below w.heap.size w w' → RfTo b w x v w' L) := Lib.hid (fun w' hb => RfTo.stay H.out hb)
  cases hn : nameB s
  · rw [hn] at HN
    have e1 : chE L s (erI (fmtB F) 4) = 6 := by unfold chE; rw [hn]; rfl
    have e2 : chL L s (erI (fmtB F) 4) { rdR L s with f := F } = L := by unfold chL; rw [hn]; rfl
    rw [e1, e2]
    go_enter Tryz.func28, Tryz.ntmps28
    go_wp2_with (go_at_call 48; refine (HN.out _).mono ?_; rintro e w1 ⟨rfl, rfl⟩)
    go_ret
    exact ⟨rfl, HS.out _ (Below.refl _ _)⟩
  · rw [hn] at HN
    cases hr : fmtB F
    · rw [hr] at HF
      have e1 : chE L s (erI false 4) = 4 := by unfold chE; rw [hn]; rfl
      have e2 : chL L s (erI false 4) { rdR L s with f := F } = L := by unfold chL; rw [hn]; rfl
      rw [e1, e2]
      go_enter Tryz.func28, Tryz.ntmps28
      go_wp2_with (first
        | (go_at_call 48; refine (HN.out _).mono ?_; rintro e w1 ⟨rfl, rfl⟩)
        | (go_at_call 52; refine (HF.out _).mono ?_; rintro e w1 ⟨rfl, rfl⟩))
      go_ret
      exact ⟨rfl, HS.out _ (Below.refl _ _)⟩
    · rw [hr] at HF
      have e1 : chE L s (erI true 4) = putE L s := by unfold chE putE; rw [hn]; rfl
      have e2 : chL L s (erI true 4) { rdR L s with f := F } = putL L s { getR L s with f := F } := by unfold chL putL rdR; rw [hn]; rfl
      rw [e1, e2]
      clear e1 e2 hn hr HS
      generalize getR L s = R at HG ⊢
      have HP := Lib.hid (fun w1 hb1 o => nPutAt s ⟨R.v, R.s, F⟩ b x v L hl w w1 H.out hbw hb1 o)
      unfold rVal at HP
      unfold rVal at HG
      go_enter Tryz.func28, Tryz.ntmps28
      go_wp2_with (first
        | (go_at_call 48; refine (HN.out _).mono ?_; rintro e w1 ⟨rfl, rfl⟩)
        | (go_at_call 52; refine (HF.out _).mono ?_; rintro e w1 ⟨rfl, rfl⟩)
        | (go_at_call 50; refine HG.out.mono ?_; rintro e w1 ⟨rfl, hb1⟩)
        | (go_at_call 51; refine (HP.out _ hb1 _).mono ?_; rintro e w2 ⟨rfl, ht⟩))
      go_ret
      exact ⟨rfl, ht⟩
end Go.Proofs.YtaamjccffkdlhaaGreatDoor
