/- Walk of the statement on brackets around a beginning. -/
import Derived.Test.YtonhglhdbpmnhaaDoorNl
import Derived.Test.YtonhglhdbpmnhaaDoorLa
namespace Go.Proofs.YtonhglhdbpmnhaaDoor
open Go.RowKit

/-- The digits of a number as a string. -/
def dg (x : Int) : ByteArray := ⟨(digL x.toNat).toArray⟩
theorem dg_size (x : Int) (h : x ≤ 9223372036854775807) : (dg x).size ≤ 19 := by
  have := digL_len x.toNat 18 (by omega)
  rw [size_list]; exact this
theorem n19i (x : Int) (h0 : 0 ≤ x) (h1 : x ≤ 9223372036854775807) (w : World) : Calls Tryd.prog 19 #[.int .i64 x] w fun e w' => e = .returned (.string (dg x)) ∧ Below w.heap.size w w' := by
  have := n19 x.toNat (by omega) w
  rw [Int.toNat_of_nonneg h0] at this
  exact this
/-- The operators of one byte. -/
def opsB : ByteArray := ⟨#[43, 45, 42, 47, 37, 60, 62, 61, 38, 58]⟩
theorem opsB_at : ∀ j : Nat, j < 10 → ∃ jj p, OpB jj (p : UInt8).toNat ∧ (opsB.extract j (j + 1)).data.toList = [p] := by
  intro j hj
  match j, hj with
  | 0, _ => exact ⟨6, 43, .inl ⟨rfl, rfl⟩, by decide⟩
  | 1, _ => exact ⟨7, 45, .inr (.inl ⟨rfl, rfl⟩), by decide⟩
  | 2, _ => exact ⟨8, 42, .inr (.inr (.inl ⟨rfl, rfl⟩)), by decide⟩
  | 3, _ => exact ⟨9, 47, .inr (.inr (.inr (.inl ⟨rfl, rfl⟩))), by decide⟩
  | 4, _ => exact ⟨10, 37, .inr (.inr (.inr (.inr (.inl ⟨rfl, rfl⟩)))), by decide⟩
  | 5, _ => exact ⟨3, 60, .inr (.inr (.inr (.inr (.inr (.inl ⟨rfl, rfl⟩))))), by decide⟩
  | 6, _ => exact ⟨4, 62, .inr (.inr (.inr (.inr (.inr (.inr (.inl ⟨rfl, rfl⟩)))))), by decide⟩
  | 7, _ => exact ⟨5, 61, .inr (.inr (.inr (.inr (.inr (.inr (.inr (.inl ⟨rfl, rfl⟩))))))), by decide⟩
  | 8, _ => exact ⟨11, 38, .inr (.inr (.inr (.inr (.inr (.inr (.inr (.inr (.inl ⟨rfl, rfl⟩)))))))), by decide⟩
  | 9, _ => exact ⟨12, 58, .inr (.inr (.inr (.inr (.inr (.inr (.inr (.inr (.inr ⟨rfl, rfl⟩)))))))), by decide⟩
theorem urem (a : Int) (k : Int) (hk : 0 < k) : 0 ≤ (IntKind.u64.wrap a).tmod k ∧ (IntKind.u64.wrap a).tmod k < k := by
  have hu : 0 ≤ IntKind.u64.wrap a := by rw [IntKind.wrap_u64]; omega
  exact ⟨Int.tmod_nonneg _ hu, Int.tmod_lt_of_pos _ hk⟩
theorem c18u (s : ByteArray) (hs : s.size ≤ 100000) (w : World) (hO : OpsAt w) :
    Calls Tryd.prog 18 #[.string s, .int .u8 117, .agg #[.int .i64 0, .int .i64 0, .int .i64 0]] w fun e w' => e = .returned (.tuple #[.int .i64 (evalA s 117 0 0 0).1, .int .i64 (evalA s 117 0 0 0).2]) ∧ Below w.heap.size w w' :=
  c18 s hs 117 0 0 0 w hO
/-- 8: the statement. -/
theorem l8 (a b c op th : Int) (w : World) (hO : OpsAt w) :
    Calls Tryd.prog 8 #[.agg #[.int .i64 a, .int .i64 b, .int .i64 c, .int .i64 op, .int .i64 th]] w fun e w' => e = .returned (.bool true) ∧ Below w.heap.size w w' := by
  have ha := urem a 3000 (by omega)
  have hb := urem b 3000 (by omega)
  have hc := urem c 3000 (by omega)
  have hp := urem op 10 (by omega)
  have hq := urem th 10 (by omega)
  have kB0 := Blk.new w 48 #[.int .i64 a, .int .i64 b, .int .i64 c, .int .i64 op, .int .i64 th]
  have m0 := Blk.cell kB0 0
  have m1 := Blk.cell kB0 1
  have m2 := Blk.cell kB0 2
  have m3 := Blk.cell kB0 3
  have m4 := Blk.cell kB0 4
  go_enter Tryd.func8, Tryd.ntmps8
  go_wp2
  go_quiet (fail)
  go_wp2_with (first
    | (go_at_call 19; refine (n19i _ (by first | exact ha.1 | exact hb.1 | exact hc.1) (by omega) _).mono ?_; rintro e w1 ⟨rfl, hb1⟩))
  go_quiet (fail)
  rename_i w1a hb1a w1b hb1b _ _
  obtain ⟨jp, p, hjp, hpl⟩ := opsB_at ((IntKind.u64.wrap op).tmod 10).toNat (by omega)
  obtain ⟨jq, q, hjq, hql⟩ := opsB_at ((IntKind.u64.wrap th).tmod 10).toNat (by omega)
  rw [show ((IntKind.u64.wrap op).tmod 10).toNat + 1 = ((IntKind.u64.wrap op).tmod 10 + 1).toNat by omega] at hpl
  rw [show ((IntKind.u64.wrap th).tmod 10).toNat + 1 = ((IntKind.u64.wrap th).tmod 10 + 1).toNat by omega] at hql
  unfold opsB at hpl hql
  have sP := congrArg List.length hpl
  have sQ := congrArg List.length hql
  rw [← size_list] at sP sQ
  have lX : (dg ((IntKind.u64.wrap a).tmod 3000)).data.toList = digL ((IntKind.u64.wrap a).tmod 3000).toNat := rfl
  have lY : (dg ((IntKind.u64.wrap b).tmod 3000)).data.toList = digL ((IntKind.u64.wrap b).tmod 3000).toNat := rfl
  have lZ : (dg ((IntKind.u64.wrap c).tmod 3000)).data.toList = digL ((IntKind.u64.wrap c).tmod 3000).toNat := rfl
  have sX := dg_size ((IntKind.u64.wrap a).tmod 3000) (by omega)
  have sY := dg_size ((IntKind.u64.wrap b).tmod 3000) (by omega)
  have sZ := dg_size ((IntKind.u64.wrap c).tmod 3000) (by omega)
  generalize ByteArray.extract _ _ ((IntKind.u64.wrap op).tmod 10 + 1).toNat = P at sP hpl ⊢
  generalize ByteArray.extract _ _ ((IntKind.u64.wrap th).tmod 10 + 1).toNat = Q at sQ hql ⊢
  generalize dg ((IntKind.u64.wrap a).tmod 3000) = X at lX sX ⊢
  generalize dg ((IntKind.u64.wrap b).tmod 3000) = Y at lY sY ⊢
  generalize dg ((IntKind.u64.wrap c).tmod 3000) = Z at lZ sZ ⊢
  have hB : Below w.heap.size w w1 := ntrans (ntrans (ntrans (below_drewN ((Below.refl w.heap.size w).alloc (Nat.le_refl _) _) _) hb1a) hb1b) hb1
  have sP' : P.size = 1 := sP
  have sQ' : Q.size = 1 := sQ
  have hE : evalA (X ++ P ++ Y ++ Q ++ Z) 117 0 0 0 = evalA ((⟨#[40]⟩ : ByteArray) ++ X ++ P ++ Y ++ ⟨#[41]⟩ ++ Q ++ Z) 117 0 0 0 :=
    left_eq (a := ((IntKind.u64.wrap a).tmod 3000).toNat) (b := ((IntKind.u64.wrap b).tmod 3000).toNat) (c := ((IntKind.u64.wrap c).tmod 3000).toNat) (by omega) (by omega) (by omega) hjp hjq
      (by simp only [ByteArray.data_append, Array.toList_append, lX, lY, lZ, hpl, hql]; simp) (by simp only [ByteArray.data_append, Array.toList_append, lX, lY, lZ, hpl, hql]; simp)
  have h1 := fun w hO => c18u (X ++ P ++ Y ++ Q ++ Z) (by simp only [ByteArray.size_append]; omega) w hO
  have h2 := fun w hO => c18u ((⟨#[40]⟩ : ByteArray) ++ X ++ P ++ Y ++ ⟨#[41]⟩ ++ Q ++ Z) (by simp only [ByteArray.size_append, ByteArray.size_mk']; simp; omega) w hO
  rw [← hE] at h2
  clear hE hpl hql lX lY lZ sP sQ
  have H1 := Lib.hid h1
  have H2 := Lib.hid h2
  clear h1 h2
  have hB' : Below w.heap.size w (w1.drewN nq) := below_drewN hB nq
  clear hB
  have hO1 := hO.below hB'
  go_wp2_with (first
    | (go_at_call 18; with_reducible refine (H1.out _ hO1).mono ?_; rintro e v1 ⟨rfl, hv1⟩; have hO2 := hO1.below hv1)
    | (go_at_call 18; with_reducible refine (H2.out _ hO2).mono ?_; rintro e v2 ⟨rfl, hv2⟩; have hO3 := hO2.below hv2)
    | (go_at_call 9; refine (l9 _ hO3).mono ?_; rintro e v3 ⟨rfl, hv3⟩))
  go_ret
  exact ⟨rfl, ntrans (ntrans (ntrans hB' hv1) hv2) hv3⟩
end Go.Proofs.YtonhglhdbpmnhaaDoor
