/- Walk: the statement on texts that are protected again and again. -/
import Derived.Test.YtbkcnopkibdlbaaDoorRb
namespace Go.Proofs.YtbkcnopkibdlbaaDoor
open Go.RowKit

set_option maxRecDepth 100000 in
set_option maxHeartbeats 2000000 in
/-- ExpandBack. -/
theorem lBack (s : ByteArray) (hs : s.size ≤ maxLen) (k : Nat) (hk : k < 256) (m : Int) (w : World) (hm : w.cell? ⟨0, 0, none⟩ = some (.int .i64 m)) :
    Calls Tryd.prog 4 #[.string s, .int .u8 k] w fun e w' => e = .returned (.bool true) ∧ Below w.heap.size w w' := by
  have HS := Lib.hid (fun w => lSane w)
  have HL := Lib.hid (fun w => nLine s hs w)
  obtain ⟨n, hn, hkn⟩ : ∃ n : Nat, n ≤ 3 ∧ (k : Int).tmod 4 = n := ⟨k % 4, by omega, rfl⟩
  unfold maxLen at hs
  by_cases hz : 120 < (s.size : Int)
  · clear hkn
    go_enter Tryd.func4, Tryd.ntmps4
    go_wp2_with (first
      | (go_at_call 5; refine (HS.out _).mono ?_; rintro e w2 ⟨rfl, hb2⟩))
    go_ret
    exact ⟨rfl, hb2⟩
  · cases hl : textB s with
    | false =>
      rw [hl] at HL
      clear hl hkn
      go_enter Tryd.func4, Tryd.ntmps4
      go_wp2_with (first
        | (go_at_call 9; refine (HL.out _).mono ?_; rintro e w1 ⟨rfl, rfl⟩)
        | (go_at_call 5; refine (HS.out _).mono ?_; rintro e w2 ⟨rfl, hb2⟩))
      go_ret
      exact ⟨rfl, hb2⟩
    | true =>
      have hmf : ∀ (fn : Fn) (first cap : Array Value) (w : World), (Instr.makeFunc fn first cap).run Tryd.prog w = .ok (.func fn first cap) w := fun _ _ _ _ => rfl
      rw [hl] at HL
      obtain ⟨l, rfl⟩ : ∃ l, s = bs l := ⟨_, (bs_self s).symm⟩
      have hlz : l.length ≤ 120 := by rw [mk_size] at hz; omega
      have hz2 : (l.length : Int) ≤ 120 := by omega
      have HP : Hid (∀ (i : Nat) (wr : World), i < n → Below w.heap.size w wr → Calls Tryd.prog 10 #[.string (bs (twN l i))] wr fun e w' => e = .returned (.tuple #[.string (bs (twN l (i + 1))), .int .i64 0]) ∧ Below w.heap.size w w') := Lib.hid (fun i wr hi hb => by
        have hlt := World.block_lt_of_cell? _ _ hm
        refine (cProtect (twN l i) (twN_tx l hlz hl i (by omega)).2 (twN_tx l hlz hl (i + 1) (by omega)).1 m wr ((hb.cell (p := ⟨0, 0, none⟩) hlt).trans hm)).mono ?_
        rintro e w' ⟨he, hb2⟩
        exact ⟨he, ntrans hb hb2⟩)
      have HE : Hid (∀ (j t : Nat) (A : Option Addr) (c : Nat) (xs : List Value) (wr : World), j < n → TlAt t 0 A c xs wr → Below w.heap.size w wr → (∀ i, TlS t A i → w.heap.size ≤ i) → Calls Tryd.prog 11 #[.string (bs (twN l (n - j))), .bool true, .func (.func 12) #[.pointer (some ⟨t, 0, none⟩)] #[]] wr fun e w' =>
          e = .returned (.tuple #[.string (bs (twN l (n - (j + 1)))), .int .i64 0]) ∧ ∃ A' c' xs', TlAt t 0 A' c' xs' w' ∧ Below w.heap.size w w' ∧ ∀ i, TlS t A' i → w.heap.size ≤ i) := Lib.hid (fun j t A c xs wr hj ht hb hi => by
        have e1 : n - j = (n - (j + 1)) + 1 := by omega
        refine (cExpandT (bs (twN l (n - j))) true (twN_tx l hlz hl (n - j) (by omega)).2 t wr ht w.heap.size hi hb.size).mono ?_
        rintro e w' ⟨o, q, A', c', xs', hx, he, hA, hb2, hi2⟩
        rw [e1] at hx
        obtain ⟨ho, hq⟩ := exp_twice _ (twN l (n - (j + 1))) _ (Nat.le_refl _) hx
        subst ho
        subst hq
        refine ⟨?_, A', c', xs', hA, hb.trans hb2, hi2⟩
        rw [he, nil_app]
        rfl)
      have H0 : Hid (bs l = bs (twN l 0)) := Lib.hid rfl
      have h0 : n - n = 0 := by omega
      clear hl hm hlz
      go_enter Tryd.func4, Tryd.ntmps4
      go_wp2_with (first
        | (go_at_call 9; refine (HL.out _).mono ?_; rintro e w1 ⟨rfl, rfl⟩))
      go_loopw [6, 7] (fun v6 v7 wr => ∃ i : Nat, i ≤ n ∧ v7 = .int .i64 i ∧ v6 = .string (bs (twN l i)) ∧ Below w.heap.size w wr) (fun _ v7 _ => n - (intOf v7).toNat)
      case atStart => exact ⟨0, Nat.zero_le _, rfl, rfl, Below.refl _ _⟩
      case round =>
        obtain ⟨i, hi, rfl, rfl, hb⟩ := hrel
        have HB := Lib.hid hb
        clear hb
        by_cases hlt : i < n
        · go_wp2_with (go_at_call 10; refine (HP.out i _ hlt HB.out).mono ?_; rintro e w1 ⟨rfl, hb1⟩; have HB1 := Lib.hid hb1; clear hb1)
          go_roundw
          case rel => exact ⟨i + 1, by omega, by go_num, rfl, HB1.out⟩
          case measure => simp [intOf]; omega
        · obtain rfl : i = n := by omega
          generalize wr = wc at *
          have HA : Hid (Below w.heap.size w (wc.alloc (.cells #[.slice none 0 0, .slice none 0 0] 36)) ∧ TlAt wc.heap.size 0 none 0 [] (wc.alloc (.cells #[.slice none 0 0, .slice none 0 0] 36)) ∧ w.heap.size ≤ wc.heap.size) :=
            Lib.hid ⟨HB.out.alloc HB.out.size _, ⟨Blk.new _ _ _, World.ownsRow_nil _ _ _ _⟩, HB.out.size⟩
          clear HB HP
          go_wp2_with fail
          go_loopw [6, 11] (fun v6 v11 wr => ∃ (j : Nat) (A : Option Addr) (c : Nat) (xs : List Value), j ≤ i ∧ v11 = .int .i64 j ∧ v6 = .string (bs (twN l (i - j))) ∧ TlAt wc.heap.size 0 A c xs wr ∧ Below w.heap.size w wr ∧ ∀ g, TlS wc.heap.size A g → w.heap.size ≤ g) (fun _ v11 _ => i - (intOf v11).toNat)
          case atStart => exact ⟨0, none, 0, [], Nat.zero_le _, rfl, rfl, HA.out.2.1, HA.out.1, fun g hg => by rcases hg with rfl | e; exact HA.out.2.2; cases e⟩
          case round =>
            obtain ⟨j, A, c, xs, hj, rfl, rfl, ht, hb, hg⟩ := hrel
            have HT := Lib.hid ht
            have HB := Lib.hid hb
            have HG := Lib.hid hg
            have q0 : wr.cell? ⟨wc.heap.size, 0, none⟩ = some (.slice A 0 c) := ht.1.cell 0
            clear ht hb hg HA
            by_cases hlt2 : j < i
            · go_wp2_with (go_at_call 11; refine (HE.out j _ A c xs _ hlt2 HT.out HB.out HG.out).mono ?_; rintro e w1 ⟨rfl, A', c', xs', ht1, hb1, hg1⟩; have HT1 := Lib.hid ht1; have HB1 := Lib.hid hb1; have HG1 := Lib.hid hg1; clear ht1 hb1 hg1)
              go_roundw
              case rel => exact ⟨j + 1, A', c', xs', by omega, by go_num, rfl, HT1.out, HB1.out, HG1.out⟩
              case measure => simp [intOf]; omega
            · obtain rfl : j = i := by omega
              rw [h0]
              rw [← H0.out]
              go_wp2_with (go_at_call 5; refine (HS.out _).mono ?_; rintro e w2 ⟨rfl, hb2⟩)
              go_ret
              exact ⟨rfl, ntrans HB.out hb2⟩
end Go.Proofs.YtbkcnopkibdlbaaDoor
