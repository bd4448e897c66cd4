/- Walks of package measure's reader: blanks, signs, digits. -/
import Derived.Test.YtonhglhdbpmnhaaDoorMa
import Derived.Test.YtonhglhdbpmnhaaDoorShelf
import Derived.BigQuiet
import Derived.Deep.QuietTactic
import Derived.Deep.LoopGhost
import Derived.StillTailTactics
namespace Go.Proofs.YtonhglhdbpmnhaaDoor
open Go.RowKit

def posOf (w : World) (g : Nat) : Nat := match w.cell? ⟨g, 1, none⟩ with | some (.int _ n) => n.toNat | _ => 0
theorem posOf_ (w : World) (g p : Nat) (h : w.cell? ⟨g, 1, none⟩ = some (.int .i64 p)) : posOf w g = p := by simp [posOf, h]

def R71 (g : Nat) (s : ByteArray) (M : Md) (pos deep : Nat) (w wr : World) : Prop :=
  ∃ p : Nat, pos ≤ p ∧ p ≤ s.size ∧ (∀ k, pos ≤ k → k < p → blk s deep k = true) ∧ Moved w g s M p deep wr
/-- 71: passBlanks. -/
theorem c71 (g : Nat) (s : ByteArray) (M : Md) (pos deep : Nat) (w : World) (h : Rd w g s M pos deep) (hs : s.size ≤ 100000) (hp : pos ≤ s.size) (_hd : deep ≤ 20) :
    Calls Tryd.prog 71 #[.pointer (some ⟨g, 0, none⟩)] w fun e w' => e = .returned (.tuple #[]) ∧ Moved w g s M (skp s deep pos) deep w' := by
  go_enter Tryd.func71, Tryd.ntmps71
  go_wp2
  go_loopw [] (fun wr => R71 g s M pos deep w wr) (fun wr => s.size - posOf wr g)
  case atStart => exact ⟨pos, by omega, hp, fun k a b => by omega, Moved.refl h⟩
  case round =>
    obtain ⟨p, hp1, hp2, hb, hm⟩ := hrel
    have HB := Lib.hid hb
    clear hb
    have h0 := hm.1.c0
    have h1 := hm.1.c1
    have h2 := hm.1.c2
    have hf := hm.1.fz 1
    have hsz : s.size ≤ maxLen := by unfold maxLen; omega
    go_wp2_with (go_at_call 56; refine (c56 g s p wr h0 hsz).mono ?_; rintro e w' ⟨rfl, rfl⟩)
    · have hdeep : 0 < deep := by assumption
      have hc : ((bt s p : Int) == 32) = true := by assumption
      have hc' : bt s p = 32 := by simp at hc; omega
      have hlt := bt_lt (s := s) (i := p) (by omega)
      have hm' := hm.step (↑p + 1) (p + 1) (by simp)
      go_roundw
      case rel => exact ⟨p + 1, by omega, by omega, fun k a b => by
        by_cases hk : k = p
        · subst hk; simp [blk, hdeep, hc']
        · exact HB.out k a (by omega), hm'⟩
      case measure =>
        rw [posOf_ _ _ _ h1, posOf_ _ g (p + 1) (by simpa using hm'.1.c1)]
        omega
    · have hc : ((bt s p : Int) == 32) = false := by assumption
      go_end0
      refine ⟨rfl, ?_⟩
      have : skp s deep pos = p := scan_eq hp1 hp2 HB.out (by simp at hc; simp [blk]; omega)
      rw [this]; exact hm
    · go_end0
      refine ⟨rfl, ?_⟩
      have : skp s deep pos = p := scan_eq hp1 hp2 HB.out (by simp [blk]; omega)
      rw [this]; exact hm


/-- 28: unit. What one of a scale is. -/
theorem c28 (c : Nat) (sz vs here : Int) (w : World) (_h1 : 0 ≤ sz) (_h2 : sz ≤ 1000000) :
    Calls Tryd.prog 28 #[.int .u8 c, .agg #[.int .i64 sz, .int .i64 vs, .int .i64 here]] w fun e w' => e = .returned (.tuple #[.int .i64 ((unitF c sz vs).getD 0), .bool (unitF c sz vs).isSome]) ∧ Below w.heap.size w w' := by
  go_enter Tryd.func28, Tryd.ntmps28
  go_wp2
  all_goals
    go_ret2
    refine ⟨?_, (Below.refl _ _).alloc (Nat.le_refl _) _⟩
    simp only [unitF, *, if_true, Bool.false_eq_true, if_false, Option.getD_some, Option.getD_none, Option.isSome_some, Option.isSome_none]
    rfl

/-- 27: IndexByte at the signs. -/
def sgI (c : Nat) : Int := Lib.indexByte [43, 45, 33, 124] ((c : Int).toNat.toUInt8)
theorem sgI_small : ∀ c : Fin 256, (decide (0 ≤ sgI c.val) == isSign c.val) = true := by decide +kernel
theorem sgI_iff {c : Nat} (hc : c < 256) : (0 ≤ sgI c ↔ isSign c = true) := by
  have h := sgI_small ⟨c, hc⟩
  simp only [beq_iff_eq] at h
  rw [← h]; simp
theorem c27s (c : Nat) (w : World) : Calls Tryd.prog 27 #[.string ⟨#[43, 45, 33, 124]⟩, .int .u8 c] w fun e w' => e = .returned (.int .i64 (sgI c)) ∧ w = w' :=
  (Tryd.strings_IndexByte ⟨#[43, 45, 33, 124]⟩ c w).mono fun _ _ ⟨he, hw⟩ => ⟨he, hw.symm⟩

/-- 69: passSigns. -/
def R69 (g : Nat) (s : ByteArray) (M : Md) (pos deep : Nat) (w wr : World) : Prop :=
  ∃ p : Nat, pos ≤ p ∧ p ≤ s.size ∧ (∀ k, pos ≤ k → k < p → runny s deep k = true) ∧ blk s deep p = false ∧ Moved w g s M p deep wr
theorem runny_of_blk {s : ByteArray} {deep i : Nat} (h : blk s deep i = true) : runny s deep i = true := by simp [runny, h]
theorem skp_all {s : ByteArray} {deep i k : Nat} (h1 : i ≤ k) (h2 : k < skp s deep i) : blk s deep k = true := (scanTo_spec _ _ _).2.2.1 k h1 h2
theorem c69 (g : Nat) (s : ByteArray) (M : Md) (pos deep : Nat) (w : World) (h : Rd w g s M pos deep) (hs : s.size ≤ 100000) (hp : pos ≤ s.size) (hd : deep ≤ 20) :
    Calls Tryd.prog 69 #[.pointer (some ⟨g, 0, none⟩)] w fun e w' => e = .returned (.tuple #[]) ∧ Moved w g s M (rn s deep pos) deep w' := by
  have hsz : s.size ≤ maxLen := by unfold maxLen; omega
  go_enter Tryd.func69, Tryd.ntmps69
  go_wp2_with (go_at_call 71; refine (c71 g s M pos deep w h hs hp hd).mono ?_; rintro e w1 ⟨rfl, hm1⟩)
  go_loopw [] (fun wr => R69 g s M pos deep w wr) (fun wr => s.size - posOf wr g)
  case atStart => exact ⟨skp s deep pos, skp_ge _ _ _, skp_le hp, fun k a b => runny_of_blk (skp_all a b), skp_stop hp, hm1⟩
  case round =>
    obtain ⟨p, hp1, hp2, hb, hbl, hm⟩ := hrel
    have HB := Lib.hid hb
    have HBL := Lib.hid hbl
    clear hb hbl hm1
    have h0 := hm.1.c0
    have h1 := hm.1.c1
    have hf := hm.1.fz 1
    by_cases hsg : 0 ≤ sgI (bt s p)
    · have hisg : isSign (bt s p) = true := (sgI_iff (bt_256 s p)).1 hsg
      have hlt := isSign_lt hisg
      have HI := Lib.hid hisg
      clear hisg
      have hm' := hm.step (↑p + 1) (p + 1) (by simp)
      go_wp2_with (first | (go_at_call 56; refine (c56 g s p wr h0 hsz).mono ?_; rintro e w' ⟨rfl, rfl⟩) | (go_at_call 27; refine (c27s _ _).mono ?_; rintro e w' ⟨rfl, rfl⟩) | (go_at_call 71; refine (c71 g s M (p + 1) deep _ hm'.1 hs (by omega) hd).mono ?_; rintro e w2 ⟨rfl, hm2⟩))
      have hm3 := hm'.trans hm2
      go_roundw
      case rel => exact ⟨skp s deep (p + 1), by have := skp_ge s deep (p + 1); omega, skp_le (by omega), fun k a b => by
        by_cases hk : k < p
        · exact HB.out k a hk
        · by_cases hk2 : k = p
          · subst hk2; simp [runny, HI.out]
          · exact runny_of_blk (skp_all (by omega) b), skp_stop (by omega), hm3⟩
      case measure =>
        rw [posOf_ _ _ _ h1, posOf_ _ g _ hm3.1.c1]
        have := skp_ge s deep (p + 1)
        omega
    · have hisg : isSign (bt s p) = false := by
        by_cases hx : isSign (bt s p) = true
        · exact absurd ((sgI_iff (bt_256 s p)).2 hx) hsg
        · simpa using hx
      have HI := Lib.hid hisg
      clear hisg
      go_wp2_with (first | (go_at_call 56; refine (c56 g s p wr h0 hsz).mono ?_; rintro e w' ⟨rfl, rfl⟩) | (go_at_call 27; refine (c27s _ _).mono ?_; rintro e w' ⟨rfl, rfl⟩))
      go_end0
      refine ⟨rfl, ?_⟩
      have : rn s deep pos = p := scan_eq hp1 hp2 HB.out (by simp [runny, HI.out, HBL.out])
      rw [this]; exact hm

/-- 76: digits. -/
def R76 (g : Nat) (s : ByteArray) (M : Md) (pos deep : Nat) (w : World) (v2 v3 : Value) (wr : World) : Prop :=
  ∃ k : Nat, k ≤ 9 ∧ pos + k ≤ s.size ∧ v2 = .int .i64 (dVal s pos k) ∧ v3 = .int .i64 k ∧ (∀ j, j < k → isDig (bt s (pos + j)) = true) ∧ Moved w g s M (pos + k) deep wr
theorem c76 (g : Nat) (s : ByteArray) (M : Md) (pos deep : Nat) (w : World) (h : Rd w g s M pos deep) (hs : s.size ≤ 100000) (hp : pos ≤ s.size) :
    Calls Tryd.prog 76 #[.pointer (some ⟨g, 0, none⟩)] w fun e w' => e = .returned (.tuple #[.int .i64 (dVal s pos (dCount s pos)), .int .i64 (dCount s pos)]) ∧ Moved w g s M (pos + dCount s pos) deep w' := by
  have hsz : s.size ≤ maxLen := by unfold maxLen; omega
  go_enter Tryd.func76, Tryd.ntmps76
  go_wp2
  go_loopw [2, 3] (fun v2 v3 wr => R76 g s M pos deep w v2 v3 wr) (fun _ _ wr => s.size - posOf wr g)
  case atStart => exact ⟨0, by omega, by omega, rfl, rfl, fun k a => by omega, Moved.refl h⟩
  case round =>
    obtain ⟨k, hk9, hks, rfl, rfl, hb, hm⟩ := hrel
    have hv := dVal_bd hk9 hb
    have HB := Lib.hid hb
    clear hb
    have h0 := hm.1.c0
    have h1 := hm.1.c1
    have hf := hm.1.fz 1
    go_wp2_with (first | (go_at_call 56; refine (c56 g s _ wr h0 hsz).mono ?_; rintro e w' ⟨rfl, rfl⟩) | (go_at_call 77; refine (c77 _ _).mono ?_; rintro e w' ⟨rfl, rfl⟩))
    · have hdig : isDig (bt s (pos + k)) = true := by assumption
      have hk : (k : Int) < 9 := by assumption
      have hd := isDig_iff.1 hdig
      have hlt : pos + k < s.size := bt_lt (by omega)
      have hbt : bt s (pos + k) = (s[pos + k]'hlt).toNat := by simp [bt, hlt]
      rw [hbt] at hd
      have hd1 : 48 ≤ ((s[pos + k]'hlt).toNat : Int) := by omega
      have hd2 : ((s[pos + k]'hlt).toNat : Int) ≤ 57 := by omega
      have HG := Lib.hid hdig
      have HT := Lib.hid hbt
      clear hdig hbt hd
      have f1 : (0 : Int) ≤ (pos : Int) + (k : Int) := by omega
      have f2 : ((pos : Int) + (k : Int)).toNat = pos + k := by omega
      have f3 : (pos : Int) + (k : Int) < (s.size : Int) := by omega
      have f4 : IntKind.i64.wrap ((dVal s pos k : Int) * 10) = (dVal s pos k : Int) * 10 := IntWalk.i64_in _ (by omega)
      have f5 : IntKind.u8.wrap (((s[pos + k]'hlt).toNat : Int) - 48) = ((s[pos + k]'hlt).toNat : Int) - 48 := IntWalk.u8_in _ (by omega)
      have f7 : IntKind.i64.wrap (((s[pos + k]'hlt).toNat : Int) - 48) = ((s[pos + k]'hlt).toNat : Int) - 48 := IntWalk.i64_in _ (by omega)
      have f6 : IntKind.i64.wrap ((dVal s pos k : Int) * 10 + (((s[pos + k]'hlt).toNat : Int) - 48)) = (dVal s pos k : Int) * 10 + (((s[pos + k]'hlt).toNat : Int) - 48) := IntWalk.i64_in _ (by omega)
      go_quiet (fail)
      clear f4 f5 f6 f7
      have hmq := hm.drewN nq
      have h1q := hmq.1.c1
      have hfq := hmq.1.fz 1
      go_wp2_with fail
      have hmr := hmq.step (↑pos + ↑k + 1) (pos + (k + 1)) (by omega)
      have hval : ((dVal s pos (k + 1) : Nat) : Int) = (dVal s pos k : Int) * 10 + (((s[pos + k]'hlt).toNat : Int) - 48) := by
        rw [dVal, HT.out]; omega
      refine ⟨⟨k + 1, by omega, by omega, by rw [hval], by go_num, fun j hj => ?_, hmr⟩, ?_⟩
      · by_cases hjk : j = k
        · rw [hjk]; exact HG.out
        · exact HB.out j (by omega)
      · rw [posOf_ _ _ _ h1, posOf_ _ g _ hmr.1.c1]
        omega
    · have hx : isDig (bt s (pos + k)) = false := by assumption
      have hc : dCount s pos = k := dCount_eq hk9 HB.out (.inl hx)
      go_ret2
      exact ⟨ret_ii (by rw [hc]) (by rw [hc]), by rw [hc]; exact hm⟩
    · have hx : 9 ≤ (k : Int) := by assumption
      have hc : dCount s pos = k := dCount_eq hk9 HB.out (.inr (by omega))
      go_ret2
      exact ⟨ret_ii (by rw [hc]) (by rw [hc]), by rw [hc]; exact hm⟩
end Go.Proofs.YtonhglhdbpmnhaaDoor
