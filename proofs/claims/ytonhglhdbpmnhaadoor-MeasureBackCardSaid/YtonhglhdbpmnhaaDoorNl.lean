/- Walk of the document's own way to write digits. -/
import Derived.Test.YtonhglhdbpmnhaaDoorPl
import Derived.Test.YtonhglhdbpmnhaaDoorNk
import Derived.Laws.BytesArg
namespace Go.Proofs.YtonhglhdbpmnhaaDoor
open Go.RowKit

/-- A string of one byte. -/
def b1 (x : Int) : ByteArray := strOfNums [x]
theorem b1_size (x : Int) : (b1 x).size = 1 := rfl
theorem kB (w : World) (x : Int) : (convert 59 9 (.slice (some ⟨w.heap.size, 0, none⟩) 1 1)).run Tryd.prog (w.alloc (.cells #[.int .u8 x] 5)) = .ok (.string (b1 x)) (w.alloc (.cells #[.int .u8 x] 5)) :=
  run_convert_bytes_arg _ 59 5 Tryd.underlying59 Tryd.underlying5 w.heap.size 0 1 1 [x] rfl (fun i hi => by
    obtain rfl : i = 0 := by omega
    exact Blk.cell (Blk.new w 5 #[.int .u8 x]) 0) 9 Tryd.underlying9
theorem b1_dig (m : Nat) (x : Int) (h : x = 48 + (m : Int) % 10) : (b1 x).data.toList = [(48 + m % 10).toUInt8] := by
  have : x = ((48 + m % 10 : Nat) : Int) := by omega
  rw [this]
  rfl
def R19 (n : Nat) (w : World) (v0 v3 : Value) (wr : World) : Prop :=
  ∃ (m : Nat) (S : ByteArray), v0 = .int .i64 m ∧ v3 = .string S ∧ digL n = (if m < 10 then [] else digL (m / 10)) ++ S.data.toList ∧ m ≤ n ∧ Below w.heap.size w wr
theorem R19_size {n m : Nat} {S : ByteArray} (hn : n ≤ 9223372036854775807) (h : digL n = (if m < 10 then [] else digL (m / 10)) ++ S.data.toList) : S.size ≤ 19 := by
  have hlen := digL_len n 18 (by omega)
  rw [h, List.length_append] at hlen
  rw [size_list]; omega
/-- 19: Digits. -/
theorem n19 (n : Nat) (hn : n ≤ 9223372036854775807) (w : World) : Calls Tryd.prog 19 #[.int .i64 n] w fun e w' => e = .returned (.string ⟨(digL n).toArray⟩) ∧ Below w.heap.size w w' := by
  have kc := kB
  go_enter Tryd.func19, Tryd.ntmps19
  go_wp2
  go_loopw [0, 3] (fun v0 v3 wr => R19 n w v0 v3 wr) (fun v0 _ _ => (intOf v0).toNat)
  case atStart =>
    refine ⟨n, _, rfl, rfl, ?_, Nat.le_refl _, (Below.refl _ _).alloc (Nat.le_refl _) _⟩
    rw [b1_dig n _ rfl]
    rw [digL]
    by_cases h : n < 10
    · rw [dif_pos h, if_pos h, Nat.mod_eq_of_lt h]; rfl
    · rw [dif_neg h, if_neg h]
  case round =>
    obtain ⟨m, S, rfl, rfl, hd, hmn, hb⟩ := hrel
    have hS := R19_size hn hd
    have kc := kB
    have ka := fun (w : World) (x : Int) => run_string_add_sum (P := Tryd.prog) w (b1 x) S (by rw [b1_size]; omega)
    go_wp2
    · have h9 : (9 : Int) < (m : Int) := by assumption
      go_roundw
      case rel =>
        refine ⟨m / 10, _, by rw [Int.natCast_ediv]; rfl, rfl, ?_, by omega, hb.alloc hb.size _⟩
        rw [ByteArray.data_append, Array.toList_append, b1_dig (m / 10) _ (by rw [Int.natCast_ediv]; rfl), hd, if_neg (by omega)]
        rw [digL]
        by_cases h : m / 10 < 10
        · rw [dif_pos h, if_pos h, Nat.mod_eq_of_lt h, List.nil_append]
        · rw [dif_neg h, if_neg h, List.append_assoc]
      case measure =>
        show ((m : Int) / 10).toNat < (m : Int).toNat
        omega
    · have h9 : (m : Int) ≤ 9 := by assumption
      rw [if_pos (by omega), List.nil_append] at hd
      have hS' : (⟨(digL n).toArray⟩ : ByteArray) = S := by rw [hd]
      rw [hS']
      go_ret
      exact ⟨rfl, hb⟩
end Go.Proofs.YtonhglhdbpmnhaaDoor
