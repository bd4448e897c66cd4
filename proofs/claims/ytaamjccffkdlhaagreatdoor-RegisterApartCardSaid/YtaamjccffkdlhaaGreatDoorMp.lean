/- Walk: RegisterDoes. -/
import Derived.Test.YtaamjccffkdlhaaGreatDoorMo
namespace Go.Proofs.YtaamjccffkdlhaaGreatDoor
open Go.RowKit Go.Maps Go.WideMaps Go.Joins

/-- The deeds of a list, as they lie. -/
def DeedsAt (w : World) (A : Option Addr) (n : Nat) : Prop :=
  0 < n → ∃ ad : Addr, A = some ad ∧ ad.block < w.heap.size ∧ ∀ k, k < n → ∃ (D m : Int) (s F : ByteArray), s.size ≤ maxLen ∧ F.size ≤ maxLen ∧
    w.cell? (ad.add (k * 4)) = some (.int .i64 D) ∧ w.cell? (ad.add (k * 4 + 1)) = some (.string s) ∧ w.cell? (ad.add (k * 4 + 2)) = some (.string F) ∧ w.cell? (ad.add (k * 4 + 3)) = some (.int .i64 m)
theorem blk_add (a : Addr) (n : Nat) : (a.add n).block = a.block := by unfold Addr.add; split <;> rfl
theorem DeedsAt.below {w w' : World} {A : Option Addr} {n : Nat} (h : DeedsAt w A n) (hb : Below w.heap.size w w') : DeedsAt w' A n := fun h0 => by
  obtain ⟨ad, e, hlt, h⟩ := h h0
  refine ⟨ad, e, Nat.lt_of_lt_of_le hlt hb.size, fun k hk => ?_⟩
  obtain ⟨D, m, s, F, h1, h2, c0, c1, c2, c3⟩ := h k hk
  exact ⟨D, m, s, F, h1, h2, (hb.cell (by rw [blk_add]; exact hlt)).trans c0, (hb.cell (by rw [blk_add]; exact hlt)).trans c1, (hb.cell (by rw [blk_add]; exact hlt)).trans c2, (hb.cell (by rw [blk_add]; exact hlt)).trans c3⟩
theorem both_new {w0 w1 w2 : World} {g bm : Nat} (hb : Below w0.heap.size w0 w1) (hk : BkAt w1 g bm []) (h1 : w0.heap.size ≤ g) (h2 : w0.heap.size ≤ bm) (e : w2 = w1.alloc (.cells #[.slice none 0 0] 29)) : Both w0 w2 g bm w1.heap.size (.slice none 0 0) [] := by
  subst e
  have hb2 := (Below.refl w1.heap.size w1).alloc (Nat.le_refl _) (.cells #[.slice none 0 0] 29)
  exact ⟨hb.trans (hb2.mono hb.size), hk.below hb2, ⟨Blk.new _ _ _, World.ownsRow_nil _ _ _ _⟩, h1, h2, hb.size⟩
set_option maxRecDepth 100000 in
set_option maxHeartbeats 2000000 in
/-- RegisterDoes. -/
theorem lRegDoes (A : Option Addr) (n c : Nat) (w : World) (hd : DeedsAt w A n) (hN : NumAt w) (hP : PowAt w) :
    Calls Tryz.prog 3 #[.slice A n c] w fun e w' => e = .returned (.bool true) ∧ Below w.heap.size w w' := by
  have HS := Lib.hid (fun w hN hP => lSane w hN hP)
  by_cases hn : 60 < n
  · go_enter Tryz.func3, Tryz.ntmps3
    go_wp2_with (go_at_call 7; refine (HS.out _ hN hP).mono ?_; rintro e w1 ⟨rfl, hb1⟩)
    go_ret
    exact ⟨rfl, hb1⟩
  · have HD := Lib.hid hd
    have HNw := Lib.hid (cNew w)
    have HDo := Lib.hid (fun D m s F hs hF g bm x v L w1 hj => lDoes D m s F hs hF w hN hP g bm x v L w1 hj)
    have HSm := Lib.hid (fun g bm x v L w1 hj => lSame w hN hP g bm x v L w1 hj)
    clear hd
    go_enter Tryz.func3, Tryz.ntmps3
    go_wp2_with (go_at_call 8; refine HNw.out.mono ?_; rintro e w1 ⟨rfl, hk1, hb1⟩)
    have hJ0 := both_new hb1 hk1 (by omega) (Nat.le_refl _) rfl
    generalize w1.alloc (.cells #[.slice none 0 0] 29) = w2 at hJ0 ⊢
    generalize w1.heap.size = x at hJ0 ⊢
    generalize w.heap.size + 1 = g at hJ0 ⊢
    have hxx := Lib.hid hJ0
    clear hk1 hb1 hJ0
    go_loopw [5] (fun v5 wr => ∃ (k : Nat) (v : Value) (L : List Ent), k ≤ n ∧ v5 = .int .i64 k ∧ Both w wr g w.heap.size x v L) (fun v5 _ => n - (intOf v5).toNat)
    case atStart => exact ⟨0, _, _, Nat.zero_le _, rfl, hxx.out⟩
    case round =>
      obtain ⟨k, v, L, hk, rfl, hJ⟩ := hrel
      have HJ := Lib.hid hJ
      by_cases hlt : k < n
      · obtain ⟨ad, rfl, hbl, hrow⟩ := HD.out.below hJ.below (by omega)
        obtain ⟨D, m, s, F, hs, hF, c0, c1, c2, c3⟩ := hrow k hlt
        have e1 : wr.cell? ⟨(ad.add (k * 4)).block, (ad.add (k * 4)).off + 1, none⟩ = some (.string s) := by rw [← c1, ← Go.Deep.add_add]; rfl
        have e2 : wr.cell? ⟨(ad.add (k * 4)).block, (ad.add (k * 4)).off + 2, none⟩ = some (.string F) := by rw [← c2, ← Go.Deep.add_add]; rfl
        have e3 : wr.cell? ⟨(ad.add (k * 4)).block, (ad.add (k * 4)).off + 3, none⟩ = some (.int .i64 m) := by rw [← c3, ← Go.Deep.add_add]; rfl
        clear hrow hJ c1 c2 c3
        go_wp2_with (first
          | (go_at_call 9; refine (HDo.out D m s F hs hF g _ x v L _ HJ.out).mono ?_; rintro e w4 ⟨rfl, v', L', hJ4⟩; have HJ4 := Lib.hid hJ4; clear hJ4)
          | (go_at_call 10; refine (HSm.out g _ x v' L' _ HJ4.out).mono ?_; rintro e w5 ⟨rfl, hb5⟩))
        go_roundw
        case rel => exact ⟨k + 1, v', L', by omega, by go_num, HJ4.out.at_ hb5⟩
        case measure => simp [intOf]; omega
      · clear hJ
        go_wp2_with (go_at_call 7; refine (HS.out _ (hN.below HJ.out.below) (hP.below HJ.out.below)).mono ?_; rintro e w6 ⟨rfl, hb6⟩)
        go_ret
        exact ⟨rfl, ntrans HJ.out.below hb6⟩
end Go.Proofs.YtaamjccffkdlhaaGreatDoor
