/- Walks: the document's letters; roman numerals, the code's and the document's. -/
import Derived.Test.YtaamjccffkdlhaaGreatDoorRe
import Derived.LoopTactic
import Derived.WalkSmall
import Derived.Maps.RangeWalk
import Derived.Deep.LoopGhost
namespace Go.Proofs.YtaamjccffkdlhaaGreatDoor
open Go.RowKit

def RLr (n : Nat) (w : World) (v0 v3 : Value) (wr : World) : Prop :=
  ∃ (m : Nat) (S : ByteArray), v0 = .int .i64 m ∧ v3 = .string S ∧ m ≤ n ∧ ltr 97 n = ltr 97 m ++ S.data.toList ∧ Below w.heap.size w wr
theorem RLr_size {n m : Nat} {S : ByteArray} (hn : n ≤ 9223372036854775807) (h : ltr 97 n = ltr 97 m ++ S.data.toList) : S.size ≤ 14 := by
  have hlen := ltr_len 97 14 n (by omega)
  rw [h, List.length_append] at hlen
  rw [size_len]; omega
/-- The document's letters. -/
theorem nLet (n : Nat) (hn : n ≤ 9223372036854775807) (w : World) :
    Calls Tryz.prog 85 #[.int .i64 n] w fun e w' => e = .returned (.string ⟨(ltr 97 n).toArray⟩) ∧ Below w.heap.size w w' := by
  go_enter Tryz.func85, Tryz.ntmps85
  go_wp2_with fail
  go_loopw [0, 3] (fun v0 v3 wr => RLr n w v0 v3 wr) (fun v0 _ _ => (intOf v0).toNat)
  case atStart => exact ⟨n, ⟨#[]⟩, rfl, rfl, Nat.le_refl _, by simp, Below.refl _ _⟩
  case round =>
    obtain ⟨m, S, rfl, rfl, hmn, hd, hb⟩ := hrel
    have hS := RLr_size hn hd
    have kc := kB
    have ka := fun (w : World) (x : Int) => run_string_add_sum (P := Tryz.prog) w (b1 x) S (by rw [b1_size]; omega)
    have HD := Lib.hid hd
    clear hd
    by_cases h0 : 0 < m
    · go_wp2_with fail
      go_roundw
      case rel =>
        refine ⟨(m - 1) / 26, _, by rw [Int.natCast_ediv, Int.natCast_sub (by omega)]; rfl, rfl, by omega, ?_, hb.alloc hb.size _⟩
        rw [app_data, b1_of _ (97 + (m - 1) % 26) (by omega), HD.out, ltr_pos 97 (by omega : m ≠ 0), List.append_assoc]
      case measure =>
        show (((m : Int) - 1) / 26).toNat < (m : Int).toNat
        omega
    · obtain rfl : m = 0 := by omega
      go_wp2_with fail
      have hE : (⟨(ltr 97 n).toArray⟩ : ByteArray) = S := ba_of (by rw [HD.out, ltr_0, List.nil_append])
      rw [hE]
      go_ret
      exact ⟨rfl, hb⟩

/-- The table of numerals, in memory. -/
def numA : Array Value := #[.int .i64 1000, .string ⟨#[109]⟩, .int .i64 900, .string ⟨#[99, 109]⟩, .int .i64 500, .string ⟨#[100]⟩, .int .i64 400, .string ⟨#[99, 100]⟩, .int .i64 100, .string ⟨#[99]⟩, .int .i64 90, .string ⟨#[120, 99]⟩, .int .i64 50, .string ⟨#[108]⟩,
  .int .i64 40, .string ⟨#[120, 108]⟩, .int .i64 10, .string ⟨#[120]⟩, .int .i64 9, .string ⟨#[105, 120]⟩, .int .i64 5, .string ⟨#[118]⟩, .int .i64 4, .string ⟨#[105, 118]⟩, .int .i64 1, .string ⟨#[105]⟩]
def NumAt (w : World) : Prop := ∃ t fr, w.heap[0]? = some (.cells numA t fr)
theorem NumAt.lt {w : World} (h : NumAt w) : 0 < w.heap.size := by
  obtain ⟨t, fr, h⟩ := h
  rcases Nat.eq_zero_or_pos w.heap.size with h0 | h0
  · rw [Array.getElem?_eq_none (by omega)] at h; cases h
  · exact h0
theorem NumAt.below {w w' : World} (h : NumAt w) (k : Below w.heap.size w w') : NumAt w' := by
  have hl := h.lt
  obtain ⟨t, fr, h⟩ := h
  exact ⟨t, fr, (k.block 0 hl).trans h⟩
def rmS (k : Nat) : ByteArray := ⟨(rmT k).toArray⟩
theorem ixN : ∀ (k : Nat), k < 13 → ∀ (w : World), (Instr.index 96 (.agg numA) (.int .i64 k)).run Tryz.prog w = .ok (.agg #[.int .i64 (rmV k), .string (rmS k)]) w
  | 0, _ => fun _ => by kernel_rfl
  | 1, _ => fun _ => by kernel_rfl
  | 2, _ => fun _ => by kernel_rfl
  | 3, _ => fun _ => by kernel_rfl
  | 4, _ => fun _ => by kernel_rfl
  | 5, _ => fun _ => by kernel_rfl
  | 6, _ => fun _ => by kernel_rfl
  | 7, _ => fun _ => by kernel_rfl
  | 8, _ => fun _ => by kernel_rfl
  | 9, _ => fun _ => by kernel_rfl
  | 10, _ => fun _ => by kernel_rfl
  | 11, _ => fun _ => by kernel_rfl
  | 12, _ => fun _ => by kernel_rfl
  | k + 13, h => absurd h (by omega)
def RRo (n : Nat) (w : World) (v0 v3 v11 : Value) (wr : World) : Prop :=
  ∃ (k m : Nat) (S : ByteArray), k ≤ 13 ∧ v11 = .int .i64 k ∧ v0 = .int .i64 m ∧ v3 = .string S ∧ m ≤ n ∧ romL n = S.data.toList ++ rmn (rmTab.drop k) m ∧ Below w.heap.size w wr
def RRi (n k g : Nat) (w : World) (v0 v3 : Value) (wr : World) : Prop :=
  ∃ (m : Nat) (S : ByteArray), v0 = .int .i64 m ∧ v3 = .string S ∧ m ≤ n ∧ romL n = S.data.toList ++ rmn (rmTab.drop k) m ∧ Blk wr g 95 #[.int .i64 (rmV k), .string (rmS k)] ∧ Below w.heap.size w wr
theorem rm_size {n k m : Nat} {S : ByteArray} (hn : n ≤ 39999) (h : romL n = S.data.toList ++ rmn (rmTab.drop k) m) : S.size ≤ 51 := by
  have := romL_len hn
  rw [h, List.length_append] at this
  rw [size_len]; omega
theorem rm_more {n k m : Nat} {S : ByteArray} (hk : k < 13) (hm : rmV k ≤ m) (h : romL n = S.data.toList ++ rmn (rmTab.drop k) m) : romL n = (S ++ rmS k).data.toList ++ rmn (rmTab.drop k) (m - rmV k) := by
  have hd := rm_drop ⟨k, hk⟩
  simp only at hd
  rw [h, hd.1, rmn_ge hd.2.1 hm, app_data, List.append_assoc]
  rfl
theorem rm_next {n k m : Nat} {l : List UInt8} (hk : k < 13) (hm : m < rmV k) (h : romL n = l ++ rmn (rmTab.drop k) m) : romL n = l ++ rmn (rmTab.drop (k + 1)) m := by
  have hd := rm_drop ⟨k, hk⟩
  simp only at hd
  rw [h, hd.1, rmn_lt hm]
theorem rm_end {n m : Nat} {S : ByteArray} (h : romL n = S.data.toList ++ rmn (rmTab.drop 13) m) : (⟨(romL n).toArray⟩ : ByteArray) = S := by
  refine ba_of ?_
  rw [h]
  show S.data.toList ++ rmn [] m = _
  simp [rmn]
theorem rm_fact {k : Nat} (hk : k < 13) : 0 < rmV k ∧ rmV k ≤ 1000 ∧ (rmS k).size ≤ 2 := by
  have hd := rm_drop ⟨k, hk⟩
  exact ⟨hd.2.1, hd.2.2.1, hd.2.2.2⟩
set_option maxRecDepth 100000 in
/-- roman, up to 39999. -/
theorem cRom (n : Nat) (hn : n ≤ 39999) (w : World) (hN : NumAt w) :
    Calls Tryz.prog 67 #[.int .i64 n] w fun e w' => e = .returned (.string ⟨(romL n).toArray⟩) ∧ Below w.heap.size w w' := by
  obtain ⟨tt, fr, ho⟩ := hN
  go_enter Tryz.func67, Tryz.ntmps67
  go_wp2_with (refine wpList_load_row rfl 96 _ rfl 0 rfl tt _ fr _ ho Tryz.underlying96 rfl (by kernel_rfl) ?_)
  go_loopw [0, 3, 11] (fun v0 v3 v11 wr => RRo n w v0 v3 v11 wr) (fun _ _ v11 _ => 13 - (intOf v11).toNat)
  case atStart => exact ⟨0, n, ⟨#[]⟩, by omega, rfl, rfl, rfl, Nat.le_refl _, by simp [romL], Below.refl _ _⟩
  case round =>
    obtain ⟨k, m, S, hk, rfl, rfl, rfl, hmn, hd, hb⟩ := hrel
    have HD := Lib.hid hd
    clear hd ho
    by_cases hk13 : k < 13
    · have hix := ixN k hk13
      obtain ⟨f1, f2, f3⟩ := rm_fact hk13
      have hblk := Blk.new wr 95 #[.int .i64 (rmV k), .string (rmS k)]
      have hb1 := hb.alloc hb.size (.cells #[.int .i64 (rmV k), .string (rmS k)] 95)
      have HB := Lib.hid hblk
      clear hblk
      go_wp2_with fail
      clear hix
      generalize wr.alloc (.cells #[.int .i64 (rmV k), .string (rmS k)] 95) = wi at HB hb1 ⊢
      generalize wr.heap.size = g at HB ⊢
      clear hb
      go_loopw [0, 3] (fun v0 v3 wj => RRi n k g w v0 v3 wj) (fun v0 _ _ => (intOf v0).toNat)
      case atStart => exact ⟨m, S, rfl, rfl, hmn, HD.out, HB.out, hb1⟩
      case round =>
        clear hb1 HB HD
        obtain ⟨m', S', rfl, rfl, hmn', hd', hblk, hb'⟩ := hrel
        have hS := rm_size hn hd'
        have HD := Lib.hid hd'
        clear hd'
        have c0 : wr.cell? ⟨g, 0, none⟩ = some (.int .i64 (rmV k)) := hblk.cell 0
        have c1 : wr.cell? ⟨g, 1, none⟩ = some (.string (rmS k)) := hblk.cell 1
        have HB := Lib.hid hblk
        clear hblk
        by_cases hv : rmV k ≤ m'
        · have ka := fun (w : World) => run_string_add_sum (P := Tryz.prog) w S' (rmS k) (by omega)
          go_wp2_with fail
          go_quiet (fail)
          go_wp2_with fail
          go_roundw
          case rel => exact ⟨m' - rmV k, S' ++ rmS k, by rw [Int.natCast_sub hv], rfl, by omega, rm_more hk13 hv HD.out, HB.out.drewN _, below_drewN hb' _⟩
          case measure =>
            show ((m' : Int) - rmV k).toNat < (m' : Int).toNat
            omega
        · go_wp2_with fail
          go_roundw
          case rel => exact ⟨k + 1, m', S', by omega, by go_num, rfl, rfl, hmn', rm_next hk13 (by omega) HD.out, hb'⟩
          case measure => simp [intOf]; omega
    · obtain rfl : k = 13 := by omega
      go_wp2_with fail
      rw [rm_end HD.out]
      go_ret
      exact ⟨rfl, hb⟩
end Go.Proofs.YtaamjccffkdlhaaGreatDoor
