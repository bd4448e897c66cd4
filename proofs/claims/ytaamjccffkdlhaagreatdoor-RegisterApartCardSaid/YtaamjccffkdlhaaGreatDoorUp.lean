/- Walk: RegisterApart. -/
import Derived.Test.YtaamjccffkdlhaaGreatDoorUo
import Derived.Test.YtaamjccffkdlhaaGreatDoorMs
namespace Go.Proofs.YtaamjccffkdlhaaGreatDoor
open Go.RowKit Go.Maps Go.WideMaps Go.Joins

/-- A pair of books of which the other pair's deeds turn nothing. -/
theorem Both.kept {w0 w w' : World} {bm x g' bm' x' lo hi : Nat} {v v1 : Value} {L1 : List Ent} (h : Both w0 w g' bm' x' v1 L1) (hb : Below w0.heap.size w0 w') (hT : Turn (fun i => i = bm ∨ i = x ∨ v.ownBlock = some i) w w')
    (hbm : bm < lo) (hx : x < lo) (hv : ∀ q, v.ownBlock = some q → q < lo ∨ hi ≤ q) (hg' : lo ≤ g' ∧ g' < hi) (hbm' : lo ≤ bm' ∧ bm' < hi) (hx' : lo ≤ x' ∧ x' < hi) (hv' : ∀ q, v1.ownBlock = some q → lo ≤ q ∧ q < hi) : Both w0 w' g' bm' x' v1 L1 := by
  have no : ∀ i, lo ≤ i ∧ i < hi → ¬ (i = bm ∨ i = x ∨ v.ownBlock = some i) := by
    intro i hi
    rintro (e | e | e)
    · omega
    · omega
    · have := hv i e
      omega
  exact ⟨hb, h.bk.turn hT (no _ hg') (no _ hbm'), h.rf.turn hT (no _ hx') (fun q hq => no q (hv' q hq)), h.hg, h.hm, h.hx⟩
set_option maxRecDepth 100000 in
set_option maxHeartbeats 4000000 in
/-- RegisterApart. -/
theorem lApart (A B : Option Addr) (n c m d : Nat) (w : World) (hd : DeedsAt w A n) (hd2 : DeedsAt w B m) (hN : NumAt w) (hP : PowAt w) :
    Calls Tryz.prog 4 #[.slice A n c, .slice B m d] w fun e w' => e = .returned (.bool true) ∧ Below w.heap.size w w' := by
  have HS := Lib.hid (fun w hN hP => lSane w hN hP)
  by_cases hn : 40 < n
  · go_enter Tryz.func4, Tryz.ntmps4
    go_wp2_with (go_at_call 7; refine (HS.out _ hN hP).mono ?_; rintro e w1 ⟨rfl, hb1⟩)
    go_ret
    exact ⟨rfl, hb1⟩
  · by_cases hm : 20 < m
    · go_enter Tryz.func4, Tryz.ntmps4
      go_wp2_with (go_at_call 7; refine (HS.out _ hN hP).mono ?_; rintro e w1 ⟨rfl, hb1⟩)
      go_ret
      exact ⟨rfl, hb1⟩
    · have HD := Lib.hid hd
      have HD2 := Lib.hid hd2
      have HNw := Lib.hid (cNew w)
      have HDo := Lib.hid (fun D m s F hs hF g bm x v L w1 hj => lDoesF D m s F hs hF w hN hP g bm x v L w1 hj)
      have HSm := Lib.hid (fun g bm x v L w1 hj => lSame w hN hP g bm x v L w1 hj)
      have HCc := Lib.hid (fun g bm L w1 h => cCopy g bm L w1 h)
      have HCn := Lib.hid (fun x v L hl w1 h hb => nCopy w.heap.size x v L hl w1 h hb)
      clear hd hd2
      go_enter Tryz.func4, Tryz.ntmps4
      go_wp2_with (go_at_call 8; refine HNw.out.mono ?_; rintro e w1 ⟨rfl, hk1, hb1⟩)
      have hJ0 := both_new hb1 hk1 (by omega) (Nat.le_refl _) rfl
      generalize w1.alloc (.cells #[.slice none 0 0] 29) = w2 at hJ0 ⊢
      generalize w1.heap.size = x at hJ0 ⊢
      generalize w.heap.size + 1 = g at hJ0 ⊢
      have hxx := Lib.hid hJ0
      clear hk1 hb1 hJ0
      go_loopw [7] (fun v7 wr => ∃ (k : Nat) (v : Value) (L : List Ent), k ≤ n ∧ v7 = .int .i64 k ∧ Both w wr g w.heap.size x v L) (fun v7 _ => n - (intOf v7).toNat)
      case atStart => exact ⟨0, _, _, Nat.zero_le _, rfl, hxx.out⟩
      case round =>
        obtain ⟨k, v, L, hk, rfl, hJ⟩ := hrel
        have HJ := Lib.hid hJ
        by_cases hlt : k < n
        · obtain ⟨ad, rfl, hbl, hrow⟩ := HD.out.below hJ.below (by omega)
          obtain ⟨D, i, s, F, hs, hF, c0, c1, c2, c3⟩ := hrow k hlt
          have e1 : wr.cell? ⟨(ad.add (k * 4)).block, (ad.add (k * 4)).off + 1, none⟩ = some (.string s) := by rw [← c1, ← Go.Deep.add_add]; rfl
          have e2 : wr.cell? ⟨(ad.add (k * 4)).block, (ad.add (k * 4)).off + 2, none⟩ = some (.string F) := by rw [← c2, ← Go.Deep.add_add]; rfl
          have e3 : wr.cell? ⟨(ad.add (k * 4)).block, (ad.add (k * 4)).off + 3, none⟩ = some (.int .i64 i) := by rw [← c3, ← Go.Deep.add_add]; rfl
          clear hrow hJ c1 c2 c3
          go_wp2_with (go_at_call 9; refine (HDo.out D i s F hs hF g _ x v L _ HJ.out).mono ?_; rintro e w4 ⟨rfl, v', L', hJ4, _, _⟩; have HJ4 := Lib.hid hJ4; clear hJ4)
          go_roundw
          case rel => exact ⟨k + 1, v', L', by omega, by go_num, HJ4.out⟩
          case measure => simp [intOf]; omega
        · have hlen := hJ.bk.len
          have hsz := hJ.below.size
          have l1 := hJ.bk.own.lt
          have l2 := hJ.rf.blk.lt
          have l3 : Hid (∀ q, v.ownBlock = some q → q < wr.heap.size) := Lib.hid (fun q hq => own_lt hJ.rf.own hq)
          clear hJ
          go_wp2_with (first
            | (go_at_call 11; refine (HCc.out g _ L _ HJ.out.bk).mono ?_; rintro e w4 ⟨g', bm', rfl, b1, b2, hk4, hb4⟩; have HK4 := Lib.hid hk4; have HJ4 := Lib.hid (HJ.out.at_ hb4); clear hk4)
            | (go_at_call 12; refine (HCn.out x v L hlen _ HJ4.out.rf (Nat.le_trans hsz hb4.size)).mono ?_; rintro e w5 ⟨x', v1, rfl, b3, hr5, hb5⟩))
          have HJ5 := Lib.hid (HJ4.out.at_ hb5)
          have s4 := hb4.size
          have s5 := hb5.size
          have G1 := Lib.hid (⟨b1, by have := HK4.out.blk.lt; omega⟩ : wr.heap.size ≤ g' ∧ g' < w5.heap.size)
          have G2 := Lib.hid (⟨b2, by have := HK4.out.own.lt; omega⟩ : wr.heap.size ≤ bm' ∧ bm' < w5.heap.size)
          have G3 := Lib.hid (⟨by omega, hr5.blk.lt⟩ : wr.heap.size ≤ x' ∧ x' < w5.heap.size)
          have G4 : Hid (∀ q, v1.ownBlock = some q → wr.heap.size ≤ q ∧ q < w5.heap.size) := Lib.hid (fun q hq => ⟨Nat.le_trans s4 (own_ge hr5.own hq), own_lt hr5.own hq⟩)
          have HC5 := Lib.hid (⟨HJ5.out.below, HK4.out.below hb5, ⟨hr5.blk, own_base hr5.own (by omega)⟩, by omega, by omega, by omega⟩ : Both w w5 g' bm' x' v1 L)
          have Hl := Lib.hid l3.out
          generalize hlo : wr.heap.size = lo at G1 G2 G3 G4 Hl l1 l2
          generalize hhi : w5.heap.size = hi at G1 G2 G3 G4
          clear b1 b2 b3 s4 s5 hr5 l3 hsz hlt hk
          go_loopw [10] (fun v10 wq => ∃ (k : Nat) (v2 : Value) (L2 : List Ent), k ≤ m ∧ v10 = .int .i64 k ∧ Both w wq g w.heap.size x v2 L2 ∧ Both w wq g' bm' x' v1 L ∧ (∀ q, v2.ownBlock = some q → q < lo ∨ hi ≤ q) ∧ hi ≤ wq.heap.size) (fun v10 _ => m - (intOf v10).toNat)
          case atStart => exact ⟨0, v, L, Nat.zero_le _, rfl, HJ5.out, HC5.out, fun q hq => .inl (Hl.out q hq), by omega⟩
          case round =>
            obtain ⟨j, v2, L2, hj, rfl, hA, hB, hv2, hhq⟩ := hrel
            have HA := Lib.hid hA
            have HB := Lib.hid hB
            have HV := Lib.hid hv2
            by_cases hlj : j < m
            · obtain ⟨ad, rfl, hbl, hrow⟩ := HD2.out.below hA.below (by omega)
              obtain ⟨D, i, s, F, hs, hF, c0, c1, c2, c3⟩ := hrow j hlj
              have e1 : wr.cell? ⟨(ad.add (j * 4)).block, (ad.add (j * 4)).off + 1, none⟩ = some (.string s) := by rw [← c1, ← Go.Deep.add_add]; rfl
              have e2 : wr.cell? ⟨(ad.add (j * 4)).block, (ad.add (j * 4)).off + 2, none⟩ = some (.string F) := by rw [← c2, ← Go.Deep.add_add]; rfl
              have e3 : wr.cell? ⟨(ad.add (j * 4)).block, (ad.add (j * 4)).off + 3, none⟩ = some (.int .i64 i) := by rw [← c3, ← Go.Deep.add_add]; rfl
              clear hrow hA hB hv2 c1 c2 c3
              go_wp2_with (go_at_call 9; refine (HDo.out D i s F hs hF g _ x v2 L2 _ HA.out).mono ?_; rintro e w6 ⟨rfl, v3, L3, hJ6, hT6, hr6⟩; have HJ6 := Lib.hid hJ6; have HT6 := Lib.hid hT6; have HR6 := Lib.hid hr6; clear hJ6 hT6 hr6)
              go_roundw
              case rel => exact ⟨j + 1, v3, L3, by omega, by go_num, HJ6.out, HB.out.kept HJ6.out.below HT6.out l1 l2 HV.out G1.out G2.out G3.out G4.out, fun q hq => by
                rcases HR6.out q hq with e | e
                · exact HV.out q e
                · exact .inr (by omega), by have := HT6.out.size; omega⟩
              case measure => simp [intOf]; omega
            · clear hA hB hv2
              go_wp2_with (first
                | (go_at_call 10; with_reducible refine (HSm.out g' bm' x' v1 L _ HB.out).mono ?_; rintro e w6 ⟨rfl, hb6⟩)
                | (go_at_call 10; with_reducible refine (HSm.out g _ x v2 L2 _ (HA.out.at_ hb6)).mono ?_; rintro e w7 ⟨rfl, hb7⟩; have hB7 := Lib.hid (ntrans (ntrans HA.out.below hb6) hb7))
                | (go_at_call 7; refine (HS.out _ (hN.below hB7.out) (hP.below hB7.out)).mono ?_; rintro e w8 ⟨rfl, hb8⟩))
              go_ret
              exact ⟨rfl, ntrans hB7.out hb8⟩
end Go.Proofs.YtaamjccffkdlhaaGreatDoor
