/- Walks of the document's own writers: digits, letters, roman numerals. -/
import Derived.Test.YtaamjccffkdlhaaGreatDoorRa
import Derived.Laws.BytesArg
import Derived.IntWalk
namespace Go.Proofs.YtaamjccffkdlhaaGreatDoor
open Go.RowKit

/-- A block that is known whole. -/
def Blk (w : World) (g : Nat) (t : TypeId) (cs : Array Value) : Prop := w.heap[g]? = some (.cells cs t (0, 0))
section
variable {w w' : World} {g : Nat} {t : TypeId} {cs : Array Value}
theorem Blk.lt (h : Blk w g t cs) : g < w.heap.size := by
  rcases Nat.lt_or_ge g w.heap.size with hlt | hge
  · exact hlt
  · unfold Blk at h; rw [Array.getElem?_eq_none hge] at h; cases h
theorem Blk.cell (h : Blk w g t cs) (i : Nat) : w.cell? ⟨g, i, none⟩ = cs[i]? := cell_of_row w g i cs t (0, 0) h
theorem Blk.frozen (h : Blk w g t cs) (i : Nat) : w.frozen? ⟨g, i, none⟩ = false := by
  unfold Blk at h
  simp [World.frozen?, h]
theorem Blk.new (w : World) (t : TypeId) (cs : Array Value) : Blk (w.alloc (.cells cs t)) w.heap.size t cs := heap_alloc_new w _
theorem Blk.drew (h : Blk w g t cs) : Blk w.drew g t cs := h
theorem Blk.drewN (h : Blk w g t cs) (n : Nat) : Blk (w.drewN n) g t cs := h
theorem Blk.alloc (h : Blk w g t cs) (o : Obj) : Blk (w.alloc o) g t cs := (Below.heap_alloc w o g h.lt).trans h
theorem Blk.far (h : Blk w g t cs) {p : Addr} (hp : g ≠ p.block) (u : Value) : Blk (w.setCell p u) g t cs := (Below.heap_setCell w p u g hp).trans h
theorem Blk.below {B : Nat} (h : Blk w g t cs) (hb : Below B w w') (hg : g < B) : Blk w' g t cs := (hb.block g hg).trans h
theorem Blk.grown {row : Option Nat} (h : Blk w g t cs) (hb : w.grownBy w' row) (hg : some g ≠ row) : Blk w' g t cs := (hb.block g h.lt hg).trans h
end
theorem ntrans {w w1 w2 : World} (a : Below w.heap.size w w1) (b : Below w1.heap.size w1 w2) : Below w.heap.size w w2 := a.trans (b.mono a.size)

/-- A string of one byte. -/
def b1 (x : Int) : ByteArray := strOfNums [x]
theorem b1_size (x : Int) : (b1 x).size = 1 := rfl
theorem kB (w : World) (x : Int) : (convert 85 9 (.slice (some ⟨w.heap.size, 0, none⟩) 1 1)).run Tryz.prog (w.alloc (.cells #[.int .u8 x] 5)) = .ok (.string (b1 x)) (w.alloc (.cells #[.int .u8 x] 5)) :=
  run_convert_bytes_arg _ 85 5 Tryz.underlying85 Tryz.underlying5 w.heap.size 0 1 1 [x] rfl (fun i hi => by
    obtain rfl : i = 0 := by omega
    exact Blk.cell (Blk.new w 5 #[.int .u8 x]) 0) 9 Tryz.underlying9
theorem b1_of (x : Int) (m : Nat) (h : x = m) : (b1 x).data.toList = [m.toUInt8] := by
  subst h
  rfl
theorem size_len (s : ByteArray) : s.size = s.data.toList.length := rfl
theorem app_data (a b : ByteArray) : (a ++ b).data.toList = a.data.toList ++ b.data.toList := by rw [ByteArray.data_append, Array.toList_append]
theorem ba_eq {a b : ByteArray} (h : a.data.toList = b.data.toList) : a = b := ByteArray.ext (Array.ext' h)
theorem ba_of {l : List UInt8} {S : ByteArray} (h : l = S.data.toList) : (⟨l.toArray⟩ : ByteArray) = S := by rw [h]

def RDg (n : Nat) (w : World) (v0 v3 : Value) (wr : World) : Prop :=
  ∃ (m : Nat) (S : ByteArray), v0 = .int .i64 m ∧ v3 = .string S ∧ digL n = digL m ++ S.data.toList ∧ m ≤ n ∧ Below w.heap.size w wr
theorem RDg_size {n m : Nat} {S : ByteArray} (hn : n ≤ 9223372036854775807) (h : digL n = digL m ++ S.data.toList) : S.size ≤ 18 := by
  have hlen := digL_small hn
  have hp := digL_pos m
  rw [h, List.length_append] at hlen
  rw [size_len]; omega
theorem dig_ten {m : Nat} (h : ¬ m < 10) : digL m = digL (m / 10) ++ [(48 + m % 10).toUInt8] := by rw [digL, dif_neg h]
theorem dig_one {m : Nat} (h : m < 10) : digL m = [(48 + m).toUInt8] := by rw [digL, dif_pos h]
/-- The document's Digits. -/
theorem nDig (n : Nat) (hn : n ≤ 9223372036854775807) (w : World) : Calls Tryz.prog 46 #[.int .i64 n] w fun e w' => e = .returned (.string ⟨(digL n).toArray⟩) ∧ Below w.heap.size w w' := by
  have kc := kB
  go_enter Tryz.func46, Tryz.ntmps46
  go_wp2
  go_loopw [0, 3] (fun v0 v3 wr => RDg n w v0 v3 wr) (fun v0 _ _ => (intOf v0).toNat)
  case atStart => exact ⟨n, ⟨#[]⟩, rfl, rfl, by simp, Nat.le_refl _, Below.refl _ _⟩
  case round =>
    obtain ⟨m, S, rfl, rfl, hd, hmn, hb⟩ := hrel
    have hS := RDg_size hn hd
    have kc := kB
    have ka := fun (w : World) (x : Int) => run_string_add_sum (P := Tryz.prog) w (b1 x) S (by rw [b1_size]; omega)
    have HD := Lib.hid hd
    clear hd
    by_cases h9 : 9 < m
    · have hw : IntKind.i64.wrap (48 + (m : Int) % 10) = 48 + (m : Int) % 10 := IntWalk.i64_in _ (by omega)
      go_wp2_with fail
      go_roundw
      case rel =>
        refine ⟨m / 10, _, by rw [Int.natCast_ediv]; rfl, rfl, ?_, by omega, hb.alloc hb.size _⟩
        rw [app_data, b1_of _ (48 + m % 10) (by omega), HD.out, dig_ten (by omega), List.append_assoc]
      case measure =>
        show ((m : Int) / 10).toNat < (m : Int).toNat
        omega
    · go_wp2_with fail
      have hE : (⟨(digL n).toArray⟩ : ByteArray) = b1 (48 + (m : Int)) ++ S := ba_of (by rw [app_data, b1_of _ (48 + m) (by omega), HD.out, dig_one (by omega)])
      rw [hE]
      go_ret
      exact ⟨rfl, hb.alloc hb.size _⟩
end Go.Proofs.YtaamjccffkdlhaaGreatDoor
